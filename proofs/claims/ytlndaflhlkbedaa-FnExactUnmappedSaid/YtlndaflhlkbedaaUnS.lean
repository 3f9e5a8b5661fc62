/- Contracts (UnS). -/
import Derived.Test.YtlndaflhlkbedaaUn
import Derived.Test.YtlndaflhlkbedaaRes
import Derived.Test.YtlndaflhlkbedaaDr
import Derived.Test.YtlndaflhlkbedaaRows
import Derived.Outline
namespace Go.Proofs.Ytlndaflhlkbedaa
open Go.RowKit
set_option linter.unusedVariables false

theorem info_itU : (Try.prog.info? 3).map (fun i => (i.zero, i.size, i.bytes)) = some (some (.int .i64 0), 1, 8) := by kernel_rfl
set_option maxHeartbeats 800000 in
set_option maxRecDepth 100000 in
theorem l10IsA_any (A : Option Addr) (n c : Nat) (ms : Tr) (i : Int) (w : World) (h : NdIn w w.heap.size A n ms) (hn : n ≤ 1048576) :
    Calls Try.prog 109 #[.slice A n c, .int .i64 i] w fun e w' => e = .returned (.bool (Un.has ms i ms.length)) ∧ Drawn w w' := by
  have H := Lib.hid h
  have HL := Lib.hid h.1
  clear h
  go_enter Try.func109, Try.ntmps109
  go_wp2
  go_loopw [5] (fun iv wr => ∃ k : Nat, k ≤ n ∧ iv = .int .i64 k ∧ Un.has ms i k = false ∧ Drawn w wr) (fun v _ => n - (intOf v).toNat)
  case atStart => exact ⟨0, by omega, rfl, rfl, Drawn.refl _⟩
  case round =>
    obtain ⟨k, hk, rfl, hg, hD⟩ := hrel
    have HG := Lib.hid hg
    have HD := Lib.hid hD
    clear hg hD
    by_cases hlt : k < n
    · obtain ⟨ad, rfl, hb, hl, hd⟩ := (H.out.to_drawn HD.out).at_ (k := k) hlt
      have hk0 : (0 : Int) ≤ (k : Int) := by omega
      have hklt : (k : Int) < (n : Int) := by omega
      have HKL := Lib.hid (show k < ms.length by rw [HL.out]; exact hlt)
      by_cases e : Tr.l ms k = i
      · have hf := Lib.hid (Un.has_hit (ms := ms) e HKL.out : Un.has ms i ms.length = true)
        as_aux_lemma =>
          go_wp2
          go_ret
          exact ⟨by rw [hf.out]; rfl, HD.out⟩
      · have HE := Lib.hid (Un.has_next HG.out (fun q => e (q)))
        as_aux_lemma =>
          go_wp2
          go_roundw
          case rel => exact ⟨k + 1, by omega, by go_num, HE.out, HD.out⟩
          case measure => simp [intOf]; omega
    · obtain rfl : k = n := by omega
      have hf := Lib.hid (by rw [HL.out]; exact HG.out : Un.has ms i ms.length = false)
      go_wp2
      go_ret
      exact ⟨by rw [hf.out]; rfl, HD.out⟩
set_option maxHeartbeats 800000 in
set_option maxRecDepth 100000 in
theorem l10IsB_any (A : Option Addr) (n c : Nat) (ms : Tr) (i : Int) (w : World) (h : NdIn w w.heap.size A n ms) (hn : n ≤ 1048576) :
    Calls Try.prog 110 #[.slice A n c, .int .i64 i] w fun e w' => e = .returned (.bool (Un.has (Tr.turn ms) i ms.length)) ∧ Drawn w w' := by
  have H := Lib.hid h
  have HL := Lib.hid h.1
  clear h
  go_enter Try.func110, Try.ntmps110
  go_wp2
  go_loopw [5] (fun iv wr => ∃ k : Nat, k ≤ n ∧ iv = .int .i64 k ∧ Un.has (Tr.turn ms) i k = false ∧ Drawn w wr) (fun v _ => n - (intOf v).toNat)
  case atStart => exact ⟨0, by omega, rfl, rfl, Drawn.refl _⟩
  case round =>
    obtain ⟨k, hk, rfl, hg, hD⟩ := hrel
    have HG := Lib.hid hg
    have HD := Lib.hid hD
    clear hg hD
    by_cases hlt : k < n
    · obtain ⟨ad, rfl, hb, hl, hd⟩ := (H.out.to_drawn HD.out).at_ (k := k) hlt
      have hk0 : (0 : Int) ≤ (k : Int) := by omega
      have hklt : (k : Int) < (n : Int) := by omega
      have HKL := Lib.hid (show k < ms.length by rw [HL.out]; exact hlt)
      have HE0 := Lib.hid (Tr.turn_l ms (k := k) HKL.out)
      by_cases e : Tr.d ms k = i
      · have hf := Lib.hid (Un.has_hit (ms := (Tr.turn ms)) (HE0.out.trans e) HKL.out : Un.has (Tr.turn ms) i ms.length = true)
        as_aux_lemma =>
          go_wp2
          go_ret
          exact ⟨by rw [hf.out]; rfl, HD.out⟩
      · have HE := Lib.hid (Un.has_next HG.out (fun q => e (HE0.out.symm.trans q)))
        as_aux_lemma =>
          go_wp2
          go_roundw
          case rel => exact ⟨k + 1, by omega, by go_num, HE.out, HD.out⟩
          case measure => simp [intOf]; omega
    · obtain rfl : k = n := by omega
      have hf := Lib.hid (by rw [HL.out]; exact HG.out : Un.has (Tr.turn ms) i ms.length = false)
      go_wp2
      go_ret
      exact ⟨by rw [hf.out]; rfl, HD.out⟩
set_option maxHeartbeats 800000 in
set_option maxRecDepth 100000 in
theorem specUnmapped_any (A A' : Option Addr) (n n' c c' : Nat) (xs ms : Tr) (w : World) (h : NdIn w w.heap.size A n xs) (h' : NdIn w w.heap.size A' n' ms) (hn : n ≤ 1048576) (hn' : n' ≤ 1048576) :
    Calls Try.prog 63 #[.slice A n c, .slice A' n' c'] w (OwnInts 3 (Un.to ms xs.length) w) := by
  have H := Lib.hid h'
  have HL := Lib.hid h.1
  clear h h'
  obtain ⟨i0, hi, hz0, hz1, hz2⟩ := info_parts info_itU
  go_enter Try.func63, Try.ntmps63
  go_wp2
  go_loopw [6, 5] (fun kv ov wr => ∃ k : Nat, k ≤ n ∧ kv = .int .i64 k ∧ wr.ownsRow w.heap.size 3 1 ov (Un.to ms k).length (ints (Un.to ms k)) ∧ Below w.heap.size w wr) (fun v _ _ => n - (intOf v).toNat)
  case atStart => exact ⟨0, by omega, rfl, World.ownsRow_lit w #[] 0 (Nat.le_refl _) (Nat.zero_le _) rfl, (Below.refl _ _).alloc (Nat.le_refl _) _⟩
  case round =>
    obtain ⟨k, hk, rfl, hown, hB⟩ := hrel
    have Ho := Lib.hid hown
    have HB := Lib.hid hB
    clear hown hB
    by_cases hlt : k < n
    · have hk0 : (0 : Int) ≤ (k : Int) := by omega
      have hklt : (k : Int) < (n : Int) := by omega
      have hlen := Un.to_len ms k
      go_wp2_with fail
      refine (l10IsA_any _ _ _ ms _ _ (H.out.to_below HB.out) hn').mono ?_
      rintro e w2 ⟨rfl, hd2⟩
      have Ho := Lib.hid (own_drawn Ho.out hd2)
      have HB := Lib.hid (Drawn.below HB.out hd2)
      have hsz2 := HB.out.size
      clear hd2
      cases hq : Un.has ms (k : Int) ms.length with
      | true =>
        have Hs := Lib.hid (Un.to_yes (ms := ms) (i := k) (by exact hq))
        clear hq
        go_wp2
        go_roundw
        case rel => exact ⟨k + 1, by omega, by go_num, by rw [Hs.out]; exact Ho.out, HB.out⟩
        case measure => simp [intOf]; omega
      | false =>
        have Hs := Lib.hid (Un.to_no (ms := ms) (i := k) (by exact hq))
        clear hq
        go_wp2_with (at_builtin; go_loud (refine append_int w2 rfl _ _ 25 rfl w.heap.size 3 i0 Try.underlying25 hi hz0 hz1 hz2 u5 (Un.to ms k).length (Un.to ms k) rfl Ho.out rfl (k : Int) rfl (by omega) hsz2 ?_); intro v1 w3 hown3 hgrow3)
        have hb3 := Kit.below_own HB.out Ho.out hgrow3
        go_roundw
        case rel => exact ⟨k + 1, by omega, by go_num, by rw [Hs.out]; exact hown3, hb3⟩
        case measure => simp [intOf]; omega
    · obtain rfl : n = k := by omega
      obtain ⟨A2, c2, rfl⟩ := own_slice Ho.out
      go_wp2
      go_ret
      exact ⟨A2, c2, by rw [HL.out]; rfl, by rw [HL.out]; exact Ho.out, HB.out⟩
set_option maxHeartbeats 800000 in
set_option maxRecDepth 100000 in
theorem specMissing_any (A A' : Option Addr) (n n' c c' : Nat) (xs ms : Tr) (w : World) (h : NdIn w w.heap.size A n xs) (h' : NdIn w w.heap.size A' n' ms) (hn : n ≤ 1048576) (hn' : n' ≤ 1048576) :
    Calls Try.prog 67 #[.slice A n c, .slice A' n' c'] w (OwnInts 3 (Un.to (Tr.turn ms) xs.length) w) := by
  have H := Lib.hid h'
  have HL := Lib.hid h.1
  clear h h'
  obtain ⟨i0, hi, hz0, hz1, hz2⟩ := info_parts info_itU
  go_enter Try.func67, Try.ntmps67
  go_wp2
  go_loopw [6, 5] (fun kv ov wr => ∃ k : Nat, k ≤ n ∧ kv = .int .i64 k ∧ wr.ownsRow w.heap.size 3 1 ov (Un.to (Tr.turn ms) k).length (ints (Un.to (Tr.turn ms) k)) ∧ Below w.heap.size w wr) (fun v _ _ => n - (intOf v).toNat)
  case atStart => exact ⟨0, by omega, rfl, World.ownsRow_lit w #[] 0 (Nat.le_refl _) (Nat.zero_le _) rfl, (Below.refl _ _).alloc (Nat.le_refl _) _⟩
  case round =>
    obtain ⟨k, hk, rfl, hown, hB⟩ := hrel
    have Ho := Lib.hid hown
    have HB := Lib.hid hB
    clear hown hB
    by_cases hlt : k < n
    · have hk0 : (0 : Int) ≤ (k : Int) := by omega
      have hklt : (k : Int) < (n : Int) := by omega
      have hlen := Un.to_len (Tr.turn ms) k
      go_wp2_with fail
      refine (l10IsB_any _ _ _ ms _ _ (H.out.to_below HB.out) hn').mono ?_
      rintro e w2 ⟨rfl, hd2⟩
      have Ho := Lib.hid (own_drawn Ho.out hd2)
      have HB := Lib.hid (Drawn.below HB.out hd2)
      have hsz2 := HB.out.size
      clear hd2
      cases hq : Un.has (Tr.turn ms) (k : Int) ms.length with
      | true =>
        have Hs := Lib.hid (Un.to_yes (ms := (Tr.turn ms)) (i := k) (by rw [Tr.turn_length]; exact hq))
        clear hq
        go_wp2
        go_roundw
        case rel => exact ⟨k + 1, by omega, by go_num, by rw [Hs.out]; exact Ho.out, HB.out⟩
        case measure => simp [intOf]; omega
      | false =>
        have Hs := Lib.hid (Un.to_no (ms := (Tr.turn ms)) (i := k) (by rw [Tr.turn_length]; exact hq))
        clear hq
        go_wp2_with (at_builtin; go_loud (refine append_int w2 rfl _ _ 25 rfl w.heap.size 3 i0 Try.underlying25 hi hz0 hz1 hz2 u5 (Un.to (Tr.turn ms) k).length (Un.to (Tr.turn ms) k) rfl Ho.out rfl (k : Int) rfl (by omega) hsz2 ?_); intro v1 w3 hown3 hgrow3)
        have hb3 := Kit.below_own HB.out Ho.out hgrow3
        go_roundw
        case rel => exact ⟨k + 1, by omega, by go_num, by rw [Hs.out]; exact hown3, hb3⟩
        case measure => simp [intOf]; omega
    · obtain rfl : n = k := by omega
      obtain ⟨A2, c2, rfl⟩ := own_slice Ho.out
      go_wp2
      go_ret
      exact ⟨A2, c2, by rw [HL.out]; rfl, by rw [HL.out]; exact Ho.out, HB.out⟩

end Go.Proofs.Ytlndaflhlkbedaa
