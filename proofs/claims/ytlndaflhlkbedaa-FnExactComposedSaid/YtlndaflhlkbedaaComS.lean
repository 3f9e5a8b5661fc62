/- Contracts (ComS). -/
import Derived.Test.YtlndaflhlkbedaaCom
import Derived.Test.YtlndaflhlkbedaaNdPt
import Derived.Test.YtlndaflhlkbedaaRes
import Derived.Test.YtlndaflhlkbedaaDr
import Derived.Test.YtlndaflhlkbedaaRows
import Derived.Outline
import Derived.BigQuiet
namespace Go.Proofs.Ytlndaflhlkbedaa
open Go.RowKit
set_option linter.unusedVariables false

theorem info_prC : (Try.prog.info? 55).map (fun i => (i.zero, i.size, i.bytes)) = some (some (.agg #[.int .i64 0, .int .i64 0]), 2, 16) := by kernel_rfl
set_option maxHeartbeats 1600000 in
set_option maxRecDepth 100000 in
theorem specComposed_any (A A' : Option Addr) (n n' c c' : Nat) (ms ns : Tr) (w : World) (h : NdIn w w.heap.size A n ms) (h' : NdIn w w.heap.size A' n' ns) (hn : n ≤ 1048576) (hn' : n' ≤ 1048576) :
    Calls Try.prog 56 #[.slice A n c, .slice A' n' c'] w (OwnNodes 55 (Cp.all ms ns) w) := by
  have H := Lib.hid h
  have H' := Lib.hid h'
  clear h h'
  have HL := Lib.hid H.out.1
  have HL' := Lib.hid H'.out.1
  obtain ⟨i0, hi, hz0, hz1, hz2⟩ := info_parts info_prC
  go_enter Try.func56, Try.ntmps56
  go_wp2
  go_loopw [6, 5] (fun kv ov wr => ∃ i : Nat, i ≤ n ∧ kv = .int .i64 i ∧ wr.ownsRow w.heap.size 55 2 ov (Cp.to ms ns i).length (Tr.cells (Cp.to ms ns i)) ∧ Below w.heap.size w wr) (fun k _ _ => n - (intOf k).toNat)
  case atStart => exact ⟨0, by omega, rfl, by rw [show Cp.to ms ns 0 = [] by rfl]; exact World.ownsRow_lit w #[] 0 (Nat.le_refl _) (Nat.zero_le _) rfl, (Below.refl _ _).alloc (Nat.le_refl _) _⟩
  case round =>
    obtain ⟨i, hi1, rfl, hown, hB⟩ := hrel
    have Ho := Lib.hid hown
    have HB := Lib.hid hB
    clear hown hB
    by_cases hlt : i < n
    · have hi0 : (0 : Int) ≤ (i : Int) := by omega
      have hilt : (i : Int) < (n : Int) := by omega
      go_wp2
      go_loopw [7, 5] (fun kv ov wr => ∃ q : Nat, q ≤ n' ∧ kv = .int .i64 q ∧ wr.ownsRow w.heap.size 55 2 ov (Cp.to ms ns i ++ Cp.row (Tr.l ms i) (Cp.out ns (Tr.d ms i) q)).length (Tr.cells (Cp.to ms ns i ++ Cp.row (Tr.l ms i) (Cp.out ns (Tr.d ms i) q))) ∧ Below w.heap.size w wr) (fun k _ _ => n' - (intOf k).toNat)
      case atStart => exact ⟨0, by omega, rfl, by rw [show Cp.row (Tr.l ms i) (Cp.out ns (Tr.d ms i) 0) = [] by rfl, List.append_nil]; exact Ho.out, HB.out⟩
      case round =>
        clear Ho HB
        obtain ⟨q, hq1, rfl, hown, hB⟩ := hrel
        have Ho := Lib.hid hown
        have HB := Lib.hid hB
        clear hown hB
        by_cases hlt2 : q < n'
        · obtain ⟨ad, rfl, _, la, da⟩ := (H.out.to_below HB.out).at_ (k := i) hlt
          obtain ⟨bd, rfl, _, lb, db⟩ := (H'.out.to_below HB.out).at_ (k := q) hlt2
          have hq0 : (0 : Int) ≤ (q : Int) := by omega
          have hqlt : (q : Int) < (n' : Int) := by omega
          by_cases e : Tr.d ms i = Tr.l ns q
          · have Hs := Lib.hid (show (Cp.to ms ns i ++ Cp.row (Tr.l ms i) (Cp.out ns (Tr.d ms i) (q + 1))) = (Cp.to ms ns i ++ Cp.row (Tr.l ms i) (Cp.out ns (Tr.d ms i) q)) ++ [(Tr.l ms i, Tr.d ns q)] by rw [Cp.out_yes e, Cp.row_add, List.append_assoc])
            have Hlen := Lib.hid (show (Cp.to ms ns i ++ Cp.row (Tr.l ms i) (Cp.out ns (Tr.d ms i) q)).length ≤ 2199023255552 by
              have h1 := Cp.to_bound ms ns (i := i) (by omega) (by rw [HL'.out]; exact hn')
              have h2 := Cp.out_len ns (Tr.d ms i) q
              rw [List.length_append, Cp.row_len]; omega)
            have q1 : (Tr.d ms i == Tr.l ns q) = true := by simpa using e
            clear e
            obtain ⟨X, hX⟩ : ∃ X, X = (Cp.to ms ns i ++ Cp.row (Tr.l ms i) (Cp.out ns (Tr.d ms i) q)) := ⟨_, rfl⟩
            rw [← hX] at Hs Hlen Ho
            clear hX
            go_wp2_with fail
            go_quiet (fail)
            obtain ⟨wy, hwy⟩ : ∃ wy, wy = wr.drewN nq := ⟨_, rfl⟩
            rw [← hwy]
            have HBy := Lib.hid (show Below w.heap.size w wy by rw [hwy]; exact HB.out.trans ((((Drawn.refl _).drewN nq).toBelow).mono HB.out.size))
            have Hoy := Lib.hid (show wy.ownsRow w.heap.size 55 2 u5 X.length (Tr.cells X) by rw [hwy]; exact own_drawn Ho.out ((Drawn.refl _).drewN nq))
            clear hwy la da lb db
            have HL5 := Lib.hid (show X.length + 1 ≤ 4398046511104 by have := Hlen.out; omega)
            have la := ((H.out.to_below HBy.out).here (k := i) hlt).1
            have db := ((H'.out.to_below HBy.out).here (k := q) hlt2).2
            have hsz2 := HBy.out.size
            go_wp2
            go_region_law ((refine step_append_pair wy.drew rfl _ _ 43 rfl w.heap.size 55 i0 Try.underlying43 hi hz0 hz1 hz2 u5 X.length X rfl Hoy.out.drew rfl (Tr.l ms i) (Tr.d ns q) rfl HL5.out hsz2 ?_; intro v' w3 hown3 hgrow3))
            all_goals
              have hb3 := Kit.below_own HBy.out.drew Hoy.out.drew hgrow3
              go_wp2
              go_roundw
              case rel => exact ⟨q + 1, by omega, by go_num, by rw [Hs.out]; exact hown3, hb3⟩
              case measure => simp [intOf]; omega
          · have Hs := Lib.hid (show (Cp.to ms ns i ++ Cp.row (Tr.l ms i) (Cp.out ns (Tr.d ms i) (q + 1))) = (Cp.to ms ns i ++ Cp.row (Tr.l ms i) (Cp.out ns (Tr.d ms i) q)) by rw [Cp.out_no e])
            have q1 : (Tr.d ms i == Tr.l ns q) = false := by simpa using e
            clear e
            as_aux_lemma =>
              go_wp2_with fail
              go_quiet (fail)
              have HBy := Lib.hid (HB.out.trans ((((Drawn.refl wr).drewN nq).toBelow).mono HB.out.size))
              have Hoy := Lib.hid (own_drawn Ho.out ((Drawn.refl wr).drewN nq))
              go_wp2
              go_roundw
              case rel => exact ⟨q + 1, by omega, by go_num, by rw [Hs.out]; exact Hoy.out, HBy.out⟩
              case measure => simp [intOf]; omega
        · obtain rfl : n' = q := by omega
          have Hs := Lib.hid (show Cp.to ms ns (i + 1) = (Cp.to ms ns i ++ Cp.row (Tr.l ms i) (Cp.out ns (Tr.d ms i) n')) by rw [Cp.to, HL'.out])
          go_wp2
          go_roundw
          case rel => exact ⟨i + 1, by omega, by go_num, by rw [Hs.out]; exact Ho.out, HB.out⟩
          case measure => simp [intOf]; omega
    · obtain rfl : n = i := by omega
      have Ht := Lib.hid (show Cp.to ms ns n = Cp.all ms ns by unfold Cp.all; rw [HL.out])
      rw [Ht.out] at Ho
      obtain ⟨A2, c2, rfl⟩ := own_slice Ho.out
      go_wp2
      go_ret
      exact ⟨A2, c2, rfl, Ho.out, HB.out⟩

end Go.Proofs.Ytlndaflhlkbedaa
