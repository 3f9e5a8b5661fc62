/- Contracts (ComI). -/
import Derived.Test.YtlndaflhlkbedaaStepP
import Derived.Test.YtlndaflhlkbedaaGrpK
import Derived.WalkArith
import Derived.Test.YtlndaflhlkbedaaStepG
import Derived.Test.YtlndaflhlkbedaaPx
import Derived.Test.YtlndaflhlkbedaaRes
import Derived.Test.YtlndaflhlkbedaaDr
import Derived.Test.YtlndaflhlkbedaaRows
import Derived.Outline
import Derived.BigQuiet
namespace Go.Proofs.Ytlndaflhlkbedaa
open Go.RowKit
set_option linter.unusedVariables false

theorem info_prCI : (Try.prog.info? 55).map (fun i => (i.zero, i.size, i.bytes)) = some (some (.agg #[.int .i64 0, .int .i64 0]), 2, 16) := by kernel_rfl
theorem info_itC : (Try.prog.info? 3).map (fun i => (i.zero, i.size, i.bytes)) = some (some (.int .i64 0), 1, 8) := by kernel_rfl
set_option maxHeartbeats 1600000 in
set_option maxRecDepth 100000 in
theorem implComposed_any (A A' : Option Addr) (n n' c c' : Nat) (ms ns : Tr) (w : World) (h : NdIn w w.heap.size A n ms) (h' : NdIn w w.heap.size A' n' ns) (hn : n ≤ 1048576) (hn' : n' ≤ 1048576) (wf : Tr.wf ms) (wf' : Tr.wf ns) :
    Calls Try.prog 46 #[.slice A n c, .slice A' n' c'] w (OwnNodes 55 (Cp.all ms ns) w) := by
  have H := Lib.hid h
  have H' := Lib.hid h'
  have WF := Lib.hid wf
  have WF' := Lib.hid wf'
  clear h h' wf wf'
  have HL := Lib.hid H.out.1
  have HL' := Lib.hid H'.out.1
  obtain ⟨i0, hi, hz0, hz1, hz2⟩ := info_parts info_itC
  have hmm := @run_makeMap Try.prog
  go_enter Try.func46, Try.ntmps46
  go_wp2
  go_loopw [16] (fun kv wr => ∃ k : Nat, k ≤ n' ∧ kv = .int .i64 k ∧ Grp ns w.heap.size k wr ∧ Below w.heap.size w wr ∧ w.heap.size + 1 ≤ wr.heap.size) (fun k _ => n' - (intOf k).toNat)
  case atStart => exact ⟨0, by omega, rfl, Grp.made w ns, (Below.refl _ _).alloc (Nat.le_refl _) _, by simp⟩
  case round =>
    obtain ⟨k, hk, rfl, hG, hB, hsz⟩ := hrel
    have HG := Lib.hid hG
    have HB := Lib.hid hB
    clear hG hB
    by_cases hlt : k < n'
    · obtain ⟨bd, rfl, _, lc, ld⟩ := (H'.out.to_below HB.out).at_ (k := k) hlt
      obtain ⟨wz, hwz⟩ : ∃ wz, wz = wr.alloc (.cells #[.int .i64 (Tr.l ns k), .int .i64 (Tr.d ns k)] 55) := ⟨_, rfl⟩
      have BZ := Lib.hid (show Below wr.heap.size wr wz by rw [hwz]; exact (Below.refl _ _).alloc (Nat.le_refl _) _)
      obtain ⟨r0, r1⟩ := (show Bx2 wz wr.heap.size (Tr.l ns k) (Tr.d ns k) by rw [hwz]; exact Bx2.made _ _ _ _)
      have BD := Lib.hid (show Below wz.heap.size wz wz.drew from (Drawn.refl _).drew.toBelow)
      have BA := Lib.hid (show Below wz.drew.heap.size wz.drew (wz.alloc (.cells #[.int .i64 (Tr.d ns k)] 3)).drew from (Below.refl wz.drew.heap.size wz.drew).alloc (Nat.le_refl _) _)
      have HBZ := Lib.hid (HB.out.trans (BZ.out.mono HB.out.size))
      have HBD := Lib.hid (HBZ.out.trans (BD.out.mono HBZ.out.size))
      have HBA := Lib.hid (HBD.out.trans (BA.out.mono HBD.out.size))
      have HSD := Lib.hid HBD.out.size
      have HSA := Lib.hid HBA.out.size
      have HZS := Lib.hid (show w.heap.size + 1 ≤ wz.drew.heap.size from Nat.le_trans hsz BZ.out.size)
      have G1 := Lib.hid ((HG.out.below BZ.out).below BD.out)
      have G2 := Lib.hid (G1.out.below BA.out)
      have hkl : k < ns.length := by rw [HL'.out]; exact hlt
      have WL := Lib.hid (show (Lit.int .i64 (Tr.l ns k)).wf = true from Go.WalkArith.wf_i64 (WF'.out k).1)
      have WD := Lib.hid (show (Lit.int .i64 (Tr.d ns k)).wf = true from Go.WalkArith.wf_i64 (WF'.out k).2)
      have LN := Lib.hid (show (Cp.out ns (Tr.l ns k) k).length + 1 ≤ 1073741824 by have := Cp.out_len ns (Tr.l ns k) k; omega)
      obtain ⟨v1, hr1, ho1, hb1⟩ := G1.out.look (by unfold maxLen; omega) WL.out
      obtain ⟨v2, hr2, ho2, hb2⟩ := G2.out.look (by unfold maxLen; omega) WL.out
      have HO1 := Lib.hid ho1
      have HO2 := Lib.hid ho2
      have HK1 := Lib.hid hb1
      have HK2 := Lib.hid hb2
      have hpz : wz.heap[wr.heap.size]? = some (.cells #[.int .i64 (Tr.l ns k), .int .i64 (Tr.d ns k)] 55) := by rw [hwz]; exact (MapKept.heap_alloc wr _).1
      have hlz : wr.heap.size < wz.heap.size := by rw [hwz]; simp
      have N1 := Lib.hid (gp_off ho1 (show wz.drew.heap[wr.heap.size]? = _ from hpz) (by decide))
      have N2 := Lib.hid (gp_off ho2 (show (wz.alloc (.cells #[.int .i64 (Tr.d ns k)] 3)).heap[wr.heap.size]? = _ from (Below.heap_alloc wz _ _ hlz).trans hpz) (by decide))
      have HLZ := Lib.hid (show wr.heap.size < (wz.alloc (.cells #[.int .i64 (Tr.d ns k)] 3)).heap.size by simp; omega)
      have k0 : (0 : Int) ≤ (k : Int) := by omega
      have k1 : (k : Int) < (n' : Int) := by omega
      have r2 : (wz.alloc (.cells #[.int .i64 (Tr.d ns k)] 3)).cell? ⟨wr.heap.size, 0, none⟩ = some (.int .i64 (Tr.l ns k)) := (((Below.refl wz.heap.size wz).alloc (Nat.le_refl _) _).cell (World.block_lt_of_cell? _ _ r0)).trans r0
      have R2 := Lib.hid r2
      have HZ := Lib.hid hwz
      clear hpz hlz
      clear hwz ho1 ho2 hb1 hb2 hkl
      go_wp2_with fail
      rw [← HZ.out]
      clear lc ld
      go_region_law (first | (refine step_append_at wz.drew rfl _ _ 25 rfl (w.heap.size + 1) 3 i0 Try.underlying25 hi hz0 hz1 hz2 v1 (Cp.out ns (Tr.l ns k) k) (Tr.d ns k) WD.out rfl (HO1.out.alloc _) rfl LN.out HZS.out ?_; intro v' w3 ho3 hg3 hl3; have r3 : w3.cell? ⟨wr.heap.size, 0, none⟩ = some (.int .i64 (Tr.l ns k)) := (hg3.cell_far ⟨wr.heap.size, 0, none⟩ HLZ.out N1.out).trans R2.out; obtain ⟨w4, hr4, HG4, hg4⟩ := HK1.out (by trivial) w3 v' ((World.grownBy_alloc _ _ _).trans hg3) ho3 (hl3.imp id (fun h => ⟨_, h, Nat.le_succ _⟩)); have HE := Lib.hid (HBD.out.groups HO1.out ((World.grownBy_alloc _ _ _).trans hg3) hg4 HSD.out (Nat.le_succ _) (Nat.le_refl _))) | (refine step_append_at wz.drew rfl _ _ 25 rfl (w.heap.size + 1) 3 i0 Try.underlying25 hi hz0 hz1 hz2 v2 (Cp.out ns (Tr.l ns k) k) (Tr.d ns k) WD.out rfl HO2.out rfl LN.out HZS.out ?_; intro v' w3 ho3 hg3 hl3; have r3 : w3.cell? ⟨wr.heap.size, 0, none⟩ = some (.int .i64 (Tr.l ns k)) := (hg3.cell_far ⟨wr.heap.size, 0, none⟩ HLZ.out N2.out).trans R2.out; obtain ⟨w4, hr4, HG4, hg4⟩ := HK2.out (by trivial) w3 v' hg3 ho3 (hl3.imp id (fun h => ⟨_, h, by simp⟩)); have HE := Lib.hid (HBA.out.groups HO2.out hg3 hg4 HSA.out (Nat.le_succ _) (Nat.le_refl _))))
      all_goals
        go_wp2
        go_roundw
        case rel => exact ⟨k + 1, by omega, by go_num, HG4, HE.out, Nat.le_trans HZS.out (by have := hg3.size; have := hg4.size; simp at *; omega)⟩
        case measure => simp [intOf]; omega
    · obtain rfl : n' = k := by omega
      obtain ⟨w1, hw1⟩ : ∃ w1, w1 = wr := ⟨_, rfl⟩
      rw [← hw1] at HG HB hsz
      have HSZ := Lib.hid hsz
      obtain ⟨j0, hj, hy0, hy1, hy2⟩ := info_parts info_prCI
      have EN := Lib.hid HL'.out
      have HW1 := Lib.hid hw1
      clear hsz hw1
      go_wp2
      rw [← HW1.out]
      go_loopw [34, 8] (fun kv ov wq => ∃ i : Nat, i ≤ n ∧ kv = .int .i64 i ∧ wq.ownsRow w1.heap.size 55 2 ov (Cp.to ms ns i).length (Tr.cells (Cp.to ms ns i)) ∧ Below w1.heap.size w1 wq) (fun k _ _ => n - (intOf k).toNat)
      case atStart => exact ⟨0, by omega, rfl, own_nil, Below.refl _ _⟩
      case round =>
        obtain ⟨i, hi1, rfl, hown, hB1⟩ := hrel
        have Ho := Lib.hid hown
        have HB1 := Lib.hid hB1
        clear hown hB1
        by_cases hlt : i < n
        · obtain ⟨ad, rfl, _, la, da⟩ := (H.out.to_below (HB.out.trans (HB1.out.mono HB.out.size))).at_ (k := i) hlt
          obtain ⟨wz, hwz⟩ : ∃ wz, wz = wr.alloc (.cells #[.int .i64 (Tr.l ms i), .int .i64 (Tr.d ms i)] 55) := ⟨_, rfl⟩
          have BZ := Lib.hid (show Below wr.heap.size wr wz by rw [hwz]; exact (Below.refl _ _).alloc (Nat.le_refl _) _)
          have HBZ := Lib.hid (HB1.out.trans (BZ.out.mono HB1.out.size))
          have BX := Lib.hid (show Bx2 wz wr.heap.size (Tr.l ms i) (Tr.d ms i) by rw [hwz]; exact Bx2.made _ _ _ _)
          have WM := Lib.hid (show (Lit.int .i64 (Tr.d ms i)).wf = true from Go.WalkArith.wf_i64 (WF.out i).2)
          obtain ⟨v, hrun, hov, _⟩ := (HG.out.below HBZ.out).look (by unfold maxLen; omega) WM.out
          obtain ⟨zs, hzs⟩ : ∃ zs, zs = Cp.out ns (Tr.d ms i) n' := ⟨_, rfl⟩
          rw [← hzs] at hov
          have hzl : zs.length ≤ 1048576 := by rw [hzs]; exact Nat.le_trans (Cp.out_len _ _ _) hn'
          have HT := Lib.hid (show Cp.to ms ns (i + 1) = Cp.to ms ns i ++ Cp.row (Tr.l ms i) zs by rw [Cp.to, hzs, EN.out])
          have HTL := Lib.hid (show (Cp.to ms ns i).length ≤ 1099511627776 from Cp.to_bound ms ns (by omega) (by rw [EN.out]; exact hn'))
          obtain ⟨A3, c3, rfl⟩ := own_slice hov.1
          have HV := Lib.hid hov
          have HOZ := Lib.hid (own_below Ho.out BZ.out)
          have LZ := Lib.hid (show wr.heap.size < wz.heap.size by rw [hwz]; simp)
          have HPB := Lib.hid (show wz.heap[wr.heap.size]? = some (.cells #[.int .i64 (Tr.l ms i), .int .i64 (Tr.d ms i)] 55) by rw [hwz]; exact (MapKept.heap_alloc wr _).1)
          have NE := Lib.hid (show u8.ownBlock ≠ some wr.heap.size from fun h => by have := (Ho.out.lt _ h).2; omega)
          obtain ⟨p0, p1⟩ := id BX.out
          have HZ := Lib.hid hwz
          have HZL := Lib.hid hzl
          have hi0 : (0 : Int) ≤ (i : Int) := by omega
          have hilt : (i : Int) < (n : Int) := by omega
          rw [hwz] at hrun
          clear hwz hov hzs hzl
          obtain ⟨pb, hpb⟩ : ∃ pb, pb = wr.heap.size := ⟨_, rfl⟩
          have HPE := Lib.hid hpb
          go_wp2_with fail
          rw [← HZ.out]
          clear la da hrun
          rw [← hpb] at BX NE LZ ⊢
          clear hpb
          go_loopw [43, 8] (fun kv ov wq => ∃ q : Nat, q ≤ zs.length ∧ kv = .int .i64 q ∧ wq.ownsRow w1.heap.size 55 2 ov (Cp.to ms ns i ++ Cp.row (Tr.l ms i) (zs.take q)).length (Tr.cells (Cp.to ms ns i ++ Cp.row (Tr.l ms i) (zs.take q))) ∧ wq.ownsInts (w.heap.size + 1) 3 .i64 (.slice A3 zs.length c3) zs ∧ Bx2 wq pb (Tr.l ms i) (Tr.d ms i) ∧ ov.ownBlock ≠ some pb ∧ Below w1.heap.size w1 wq ∧ pb < wq.heap.size) (fun k _ _ => zs.length - (intOf k).toNat)
          case atStart => exact ⟨0, by omega, rfl, by rw [show Cp.row (Tr.l ms i) (zs.take 0) = [] by rfl, List.append_nil]; exact HOZ.out, HV.out, BX.out, NE.out, HBZ.out, LZ.out⟩
          case round =>
            clear HZ HOZ HV BX NE HBZ LZ p0 p1
            obtain ⟨q, hq1, rfl, hown, hov, hbx, hne, hB2, hlz⟩ := hrel
            have HOq := Lib.hid hown
            have HVq := Lib.hid hov
            have HBq := Lib.hid hB2
            have HXq := Lib.hid hbx
            have HNq := Lib.hid hne
            have HLq := Lib.hid hlz
            clear hown hov hB2 hbx hne hlz
            by_cases hlt2 : q < zs.length
            · obtain ⟨g, rfl, _, hgl⟩ := own_form HVq.out.1 (by omega)
              have hc := own_int (zs := zs) HVq.out.1 (k := q) hlt2
              obtain ⟨p0, p1⟩ := id HXq.out
              have hq0 : (0 : Int) ≤ (q : Int) := by omega
              have hqlt : (q : Int) < (zs.length : Int) := by omega
              have HT2 := Lib.hid (show (Cp.to ms ns i ++ Cp.row (Tr.l ms i) (zs.take (q + 1))) = (Cp.to ms ns i ++ Cp.row (Tr.l ms i) (zs.take q)) ++ [(Tr.l ms i, Zs.at zs q)] by
                rw [Cp.row_take _ _ hlt2, List.append_assoc]; rfl)
              have HLX := Lib.hid (show (Cp.to ms ns i ++ Cp.row (Tr.l ms i) (zs.take q)).length + 1 ≤ 4398046511104 by
                have := HTL.out; have := HZL.out; rw [List.length_append, Cp.row_len, List.length_take]; omega)
              obtain ⟨X, hX⟩ : ∃ X, X = (Cp.to ms ns i ++ Cp.row (Tr.l ms i) (zs.take q)) := ⟨_, rfl⟩
              rw [← hX] at HOq HT2 HLX
              obtain ⟨z, hz⟩ : ∃ z, z = Zs.at zs q := ⟨_, rfl⟩
              rw [← hz] at HT2 hc
              have hszq := HBq.out.size
              have hzl2 := HZL.out
              clear hX hz hgl
              go_wp2_with (at_builtin; go_loud (refine append_pair_at wr rfl _ _ 43 rfl w1.heap.size 55 j0 Try.underlying43 hj hy0 hy1 hy2 u8 X.length X rfl HOq.out rfl (Tr.l ms i) z rfl HLX.out hszq ?_); intro v' w3 hown3 hgrow3 hlie3)
              have hb3 := Kit.below_own HBq.out HOq.out hgrow3
              have hgr := (World.grownBy_alloc wr (.cells #[.int .i64 (Tr.l ms i), .int .i64 z] 55) u8.ownBlock).trans hgrow3
              have hov3 := HVq.out.kept hgr (comNe HVq.out.1 HOq.out (by decide))
              have hx3 : Bx2 w3 pb (Tr.l ms i) (Tr.d ms i) := ⟨hgr.cell HXq.out.1 (fun e => HNq.out e.symm), hgr.cell HXq.out.2 (fun e => HNq.out e.symm)⟩
              have hn3 : v'.ownBlock ≠ some pb := by
                rcases hlie3 with h | h
                · rw [h]; exact HNq.out
                · rw [h]; intro e; have e2 := Option.some.inj e; have := HLq.out; omega
              go_roundw
              case rel => exact ⟨q + 1, by omega, by go_num, by rw [HT2.out]; exact hown3, hov3, hx3, hn3, hb3, Nat.lt_of_lt_of_le HLq.out hgr.size⟩
              case measure => simp [intOf]; omega
            · obtain rfl : q = zs.length := by omega
              rw [List.take_length] at HOq
              go_wp2
              go_roundw
              case rel => exact ⟨i + 1, by omega, by go_num, by rw [HT.out]; exact HOq.out, HBq.out⟩
              case measure => simp [intOf]; omega
        · obtain rfl : n = i := by omega
          have Ht := Lib.hid (show Cp.to ms ns n = Cp.all ms ns by unfold Cp.all; rw [HL.out])
          rw [Ht.out] at Ho
          have Ho2 := Lib.hid (own_base Ho.out HB.out.size)
          obtain ⟨A2, c2, rfl⟩ := own_slice Ho2.out
          go_wp2
          go_ret
          exact ⟨A2, c2, rfl, Ho2.out, HB.out.trans (HB1.out.mono HB.out.size)⟩

end Go.Proofs.Ytlndaflhlkbedaa
