/- Contracts (NodeI). -/
import Derived.Test.YtgokllaeggdndaaRes2
import Derived.Test.YtgokllaeggdndaaReadVarI
import Derived.Test.YtgokllaeggdndaaLabOkI
import Derived.Test.YtgokllaeggdndaaDepI
import Derived.Outline
namespace Go.Proofs.Ytgokllaeggdndaa
open Go.RowKit
set_option linter.unusedVariables false

theorem results_cell_tmp2 {fn : Func} {p u v : Tmp} {ty : TypeId} (h : fn.results = #[.cell p ty, .tmp u, .tmp v]) (tmps : Array Value) (P : Program) (w : World) :
    (results fn tmps).run P w =
      ((asAddr (tmps.getD p undef)).run P w).andThen fun a w₁ => ((loadVar ty a).run P w₁).andThen fun x w₂ => .ok (.tuple #[x, tmps.getD u undef, tmps.getD v undef]) w₂ := by
  simp only [results, h]
  simp [Sem.run_bind, Result.andThen]

set_option maxHeartbeats 800000 in
set_option maxRecDepth 100000 in
theorem getNode_any (t : ByteArray) (A : Option Addr) (n c : Nat) (xs : Tr) (w : World) (ht : t.size ≤ maxLen) (h : NdIn w w.heap.size A n xs) (hn : n ≤ 1048576) (hb : 0 < n → 0 ≤ Tr.d xs (n - 1) ∧ Tr.d xs (n - 1) ≤ 12) :
    Calls Try.prog 51 #[.string t, .slice A n c] w fun e w' => e = .returned (.tuple #[.agg #[.int .i64 (Tr.node t xs).1.1, .int .i64 (Tr.node t xs).1.2], .int .i64 (Tr.node t xs).2.1, .int .i64 (Tr.node t xs).2.2]) ∧ Below w.heap.size w w' := by
  have H := Lib.hid h
  have HL := Lib.hid H.out.1
  have Hb := Lib.hid hb
  clear h hb
  have hk7 := Num.rvK_le t
  have hr : (Num.rest t (Num.rvK t)).size ≤ maxLen := by rw [Num.rest_size]; omega
  have ht' := ht
  unfold maxLen at ht'
  obtain ⟨K, hK⟩ : ∃ K, K = Num.rvK t := ⟨_, rfl⟩
  obtain ⟨V, hV⟩ : ∃ V, V = Num.rvN t := ⟨_, rfl⟩
  obtain ⟨U, hU⟩ : ∃ U, U = Num.rest t K := ⟨_, rfl⟩
  obtain ⟨K2, hK2⟩ : ∃ K2, K2 = Num.rvK U := ⟨_, rfl⟩
  obtain ⟨V2, hV2⟩ : ∃ V2, V2 = Num.rvN U := ⟨_, rfl⟩
  have hk72 := Num.rvK_le U
  have n1 := Tr.node_n1 (t := t) (xs := xs)
  have n2 := Tr.node_n2 (t := t) (xs := xs)
  have n3 := Tr.node_n3 (t := t) (xs := xs)
  have n4 := Tr.node_n4 (t := t) (xs := xs)
  have n5 := Tr.node_n5 (t := t) (xs := xs)
  have n6 := Tr.node_y (t := t) (xs := xs)
  rw [HL.out] at n5 n6
  simp only [← hK, ← hV, ← hU, ← hK2, ← hV2] at n1 n2 n3 n4 n5 n6 hr hk7 hk72
  have N1 := Lib.hid n1
  have N2 := Lib.hid n2
  have N3 := Lib.hid n3
  have N4 := Lib.hid n4
  have N5 := Lib.hid n5
  have N6 := Lib.hid n6
  have HK := Lib.hid hK
  have HV := Lib.hid hV
  have HU := Lib.hid hU
  have HK2 := Lib.hid hK2
  have HV2 := Lib.hid hV2
  have Ha := Lib.hid (Below.refl w.heap.size w |>.alloc (Nat.le_refl _) (.cells #[.int .i64 0, .int .i64 0] 43))
  have Oa := Lib.hid (World.ownsRow_lit (base := w.heap.size) (e := 43) (size := 2) w #[.int .i64 0, .int .i64 0] 1 (Nat.le_refl _) (by decide) rfl)
  clear n1 n2 n3 n4 n5 n6 hK hV hU hK2 hV2
  have hkt : (K : Int) ≤ (t.size : Int) := by omega
  have hkt' : K ≤ t.size := by omega
  by_cases h1 : K = 0
  · have e1 : ((K : Int) == 0) = true := by rw [h1]; rfl
    have Hf := Lib.hid (N1.out h1)
    clear h1
    go_enter Try.func51, Try.ntmps51
    go_wp2_with fail
    refine (implReadVar_any t ht _).mono ?_
    rintro e w1 ⟨rfl, hb1⟩
    have O1 := Lib.hid (own_below Oa.out hb1)
    have c0 : w1.cell? ⟨w.heap.size, 0, none⟩ = some (.int .i64 0) := own_even (xs := [(0, 0)]) (k := 0) O1.out (by decide)
    have c1 : w1.cell? ⟨w.heap.size, 1, none⟩ = some (.int .i64 0) := own_odd (xs := [(0, 0)]) (k := 0) O1.out (by decide)
    have f0 := O1.out.frozenAt 0
    have f1 := O1.out.frozenAt 1
    have HB1 := Lib.hid (Ha.out.trans (hb1.mono (Ha.out.size)))
    clear hb1
    rw [← HK.out, ← HV.out]
    go_wp2
    (try simp only [Exit.inBlock, Exit.then])
    refine bodyPost_ret (v := .tuple #[.agg #[.int .i64 0, .int .i64 0], .int .i64 (0), .int .i64 1]) ?_ rfl ⟨?_, ?_⟩
    · rw [results_cell_tmp2 rfl]
      go_simp
    · rw [Hf.out]
      rfl
    · exact (HB1.out.setCell (Nat.le_refl _) _).setCell (Nat.le_refl _) _
  · have e1 : ((K : Int) == 0) = false := beq_eq_false_iff_ne.2 (by omega)
    rcases h2 : Lab.ok V with _ | _
    · have Hf := Lib.hid (N2.out h1 h2)
      clear h1
      go_enter Try.func51, Try.ntmps51
      go_wp2_with fail
      refine (implReadVar_any t ht _).mono ?_
      rintro e w1 ⟨rfl, hb1⟩
      have O1 := Lib.hid (own_below Oa.out hb1)
      have c0 : w1.cell? ⟨w.heap.size, 0, none⟩ = some (.int .i64 0) := own_even (xs := [(0, 0)]) (k := 0) O1.out (by decide)
      have c1 : w1.cell? ⟨w.heap.size, 1, none⟩ = some (.int .i64 0) := own_odd (xs := [(0, 0)]) (k := 0) O1.out (by decide)
      have f0 := O1.out.frozenAt 0
      have f1 := O1.out.frozenAt 1
      have HB1 := Lib.hid (Ha.out.trans (hb1.mono (Ha.out.size)))
      clear hb1
      rw [← HK.out, ← HV.out]
      go_wp2_with fail
      refine (implLabelOk_any _ _).mono ?_
      rintro e w' ⟨rfl, rfl⟩
      rw [h2]
      go_wp2
      (try simp only [Exit.inBlock, Exit.then])
      refine bodyPost_ret (v := .tuple #[.agg #[.int .i64 0, .int .i64 0], .int .i64 (0), .int .i64 3]) ?_ rfl ⟨?_, ?_⟩
      · rw [results_cell_tmp2 rfl]
        go_simp
      · rw [Hf.out]
        rfl
      · exact (HB1.out.setCell (Nat.le_refl _) _).setCell (Nat.le_refl _) _
    · by_cases h3 : K2 = 0
      · have e3 : ((K2 : Int) == 0) = true := by rw [h3]; rfl
        have Hf := Lib.hid (N3.out h1 h2 h3)
        clear h1 h3
        go_enter Try.func51, Try.ntmps51
        go_wp2_with fail
        refine (implReadVar_any t ht _).mono ?_
        rintro e w1 ⟨rfl, hb1⟩
        have O1 := Lib.hid (own_below Oa.out hb1)
        have c0 : w1.cell? ⟨w.heap.size, 0, none⟩ = some (.int .i64 0) := own_even (xs := [(0, 0)]) (k := 0) O1.out (by decide)
        have c1 : w1.cell? ⟨w.heap.size, 1, none⟩ = some (.int .i64 0) := own_odd (xs := [(0, 0)]) (k := 0) O1.out (by decide)
        have f0 := O1.out.frozenAt 0
        have f1 := O1.out.frozenAt 1
        have HB1 := Lib.hid (Ha.out.trans (hb1.mono (Ha.out.size)))
        clear hb1
        rw [← HK.out, ← HV.out]
        go_wp2_with fail
        refine (implLabelOk_any _ _).mono ?_
        rintro e w' ⟨rfl, rfl⟩
        rw [h2]
        go_wp2_with fail
        refine (implReadVar_any (Num.rest t K) (by rw [← HU.out]; exact hr) _).mono ?_
        rintro e w2 ⟨rfl, hb2⟩
        have O2 := Lib.hid (own_below O1.out hb2)
        clear c0 c1 f0 f1
        have c0 : w2.cell? ⟨w.heap.size, 0, none⟩ = some (.int .i64 0) := own_even (xs := [(0, 0)]) (k := 0) O2.out (by decide)
        have c1 : w2.cell? ⟨w.heap.size, 1, none⟩ = some (.int .i64 0) := own_odd (xs := [(0, 0)]) (k := 0) O2.out (by decide)
        have f0 := O2.out.frozenAt 0
        have f1 := O2.out.frozenAt 1
        have HB2 := Lib.hid (HB1.out.trans (hb2.mono HB1.out.size))
        clear hb2
        rw [← HU.out, ← HK2.out, ← HV2.out]
        go_wp2
        (try simp only [Exit.inBlock, Exit.then])
        refine bodyPost_ret (v := .tuple #[.agg #[.int .i64 0, .int .i64 0], .int .i64 (0), .int .i64 1]) ?_ rfl ⟨?_, ?_⟩
        · rw [results_cell_tmp2 rfl]
          go_simp
        · rw [Hf.out]
          rfl
        · exact (HB2.out.setCell (Nat.le_refl _) _).setCell (Nat.le_refl _) _
      · have e3 : ((K2 : Int) == 0) = false := beq_eq_false_iff_ne.2 (by omega)
        by_cases h4 : 12 < V2
        · have e4 : decide ((12 : Int) < (V2 : Int)) = true := by simp; omega
          have Hf := Lib.hid (N4.out h1 h2 h3 h4)
          clear h1 h3 h4
          go_enter Try.func51, Try.ntmps51
          go_wp2_with fail
          refine (implReadVar_any t ht _).mono ?_
          rintro e w1 ⟨rfl, hb1⟩
          have O1 := Lib.hid (own_below Oa.out hb1)
          have c0 : w1.cell? ⟨w.heap.size, 0, none⟩ = some (.int .i64 0) := own_even (xs := [(0, 0)]) (k := 0) O1.out (by decide)
          have c1 : w1.cell? ⟨w.heap.size, 1, none⟩ = some (.int .i64 0) := own_odd (xs := [(0, 0)]) (k := 0) O1.out (by decide)
          have f0 := O1.out.frozenAt 0
          have f1 := O1.out.frozenAt 1
          have HB1 := Lib.hid (Ha.out.trans (hb1.mono (Ha.out.size)))
          clear hb1
          rw [← HK.out, ← HV.out]
          go_wp2_with fail
          refine (implLabelOk_any _ _).mono ?_
          rintro e w' ⟨rfl, rfl⟩
          rw [h2]
          go_wp2_with fail
          refine (implReadVar_any (Num.rest t K) (by rw [← HU.out]; exact hr) _).mono ?_
          rintro e w2 ⟨rfl, hb2⟩
          have O2 := Lib.hid (own_below O1.out hb2)
          clear c0 c1 f0 f1
          have c0 : w2.cell? ⟨w.heap.size, 0, none⟩ = some (.int .i64 0) := own_even (xs := [(0, 0)]) (k := 0) O2.out (by decide)
          have c1 : w2.cell? ⟨w.heap.size, 1, none⟩ = some (.int .i64 0) := own_odd (xs := [(0, 0)]) (k := 0) O2.out (by decide)
          have f0 := O2.out.frozenAt 0
          have f1 := O2.out.frozenAt 1
          have HB2 := Lib.hid (HB1.out.trans (hb2.mono HB1.out.size))
          clear hb2
          rw [← HU.out, ← HK2.out, ← HV2.out]
          go_wp2
          (try simp only [Exit.inBlock, Exit.then])
          refine bodyPost_ret (v := .tuple #[.agg #[.int .i64 0, .int .i64 0], .int .i64 (0), .int .i64 4]) ?_ rfl ⟨?_, ?_⟩
          · rw [results_cell_tmp2 rfl]
            go_simp
          · rw [Hf.out]
            rfl
          · exact (HB2.out.setCell (Nat.le_refl _) _).setCell (Nat.le_refl _) _
        · have e4 : decide ((12 : Int) < (V2 : Int)) = false := by simp; omega
          rcases h5 : Tr.fits xs n V2 with _ | _
          · have Hf := Lib.hid (N5.out h1 h2 h3 h4 h5)
            clear h1 h3 h4
            go_enter Try.func51, Try.ntmps51
            go_wp2_with fail
            refine (implReadVar_any t ht _).mono ?_
            rintro e w1 ⟨rfl, hb1⟩
            have O1 := Lib.hid (own_below Oa.out hb1)
            have c0 : w1.cell? ⟨w.heap.size, 0, none⟩ = some (.int .i64 0) := own_even (xs := [(0, 0)]) (k := 0) O1.out (by decide)
            have c1 : w1.cell? ⟨w.heap.size, 1, none⟩ = some (.int .i64 0) := own_odd (xs := [(0, 0)]) (k := 0) O1.out (by decide)
            have f0 := O1.out.frozenAt 0
            have f1 := O1.out.frozenAt 1
            have HB1 := Lib.hid (Ha.out.trans (hb1.mono (Ha.out.size)))
            clear hb1
            rw [← HK.out, ← HV.out]
            go_wp2_with fail
            refine (implLabelOk_any _ _).mono ?_
            rintro e w' ⟨rfl, rfl⟩
            rw [h2]
            go_wp2_with fail
            refine (implReadVar_any (Num.rest t K) (by rw [← HU.out]; exact hr) _).mono ?_
            rintro e w2 ⟨rfl, hb2⟩
            have O2 := Lib.hid (own_below O1.out hb2)
            clear c0 c1 f0 f1
            have c0 : w2.cell? ⟨w.heap.size, 0, none⟩ = some (.int .i64 0) := own_even (xs := [(0, 0)]) (k := 0) O2.out (by decide)
            have c1 : w2.cell? ⟨w.heap.size, 1, none⟩ = some (.int .i64 0) := own_odd (xs := [(0, 0)]) (k := 0) O2.out (by decide)
            have f0 := O2.out.frozenAt 0
            have f1 := O2.out.frozenAt 1
            have HB2 := Lib.hid (HB1.out.trans (hb2.mono HB1.out.size))
            clear hb2
            rw [← HU.out, ← HK2.out, ← HV2.out]
            go_wp2_with fail
            refine (depthFits_any _ _ _ xs _ _ (H.out.to_below HB2.out) hn Hb.out).mono ?_
            rintro e w' ⟨rfl, rfl⟩
            rw [h5]
            go_wp2
            (try simp only [Exit.inBlock, Exit.then])
            refine bodyPost_ret (v := .tuple #[.agg #[.int .i64 0, .int .i64 0], .int .i64 (0), .int .i64 5]) ?_ rfl ⟨?_, ?_⟩
            · rw [results_cell_tmp2 rfl]
              go_simp
            · rw [Hf.out]
              rfl
            · exact (HB2.out.setCell (Nat.le_refl _) _).setCell (Nat.le_refl _) _
          · have Hf := Lib.hid (N6.out h1 h2 h3 h4 h5)
            have a1 : IntKind.i64.wrap ((K : Int) + (K2 : Int)) = (K : Int) + (K2 : Int) := Kit.w64 (by omega) (by omega)
            clear h1 h3 h4
            go_enter Try.func51, Try.ntmps51
            go_wp2_with fail
            refine (implReadVar_any t ht _).mono ?_
            rintro e w1 ⟨rfl, hb1⟩
            have O1 := Lib.hid (own_below Oa.out hb1)
            have c0 : w1.cell? ⟨w.heap.size, 0, none⟩ = some (.int .i64 0) := own_even (xs := [(0, 0)]) (k := 0) O1.out (by decide)
            have c1 : w1.cell? ⟨w.heap.size, 1, none⟩ = some (.int .i64 0) := own_odd (xs := [(0, 0)]) (k := 0) O1.out (by decide)
            have f0 := O1.out.frozenAt 0
            have f1 := O1.out.frozenAt 1
            have HB1 := Lib.hid (Ha.out.trans (hb1.mono (Ha.out.size)))
            clear hb1
            rw [← HK.out, ← HV.out]
            go_wp2_with fail
            refine (implLabelOk_any _ _).mono ?_
            rintro e w' ⟨rfl, rfl⟩
            rw [h2]
            go_wp2_with fail
            refine (implReadVar_any (Num.rest t K) (by rw [← HU.out]; exact hr) _).mono ?_
            rintro e w2 ⟨rfl, hb2⟩
            have O2 := Lib.hid (own_below O1.out hb2)
            clear c0 c1 f0 f1
            have c0 : w2.cell? ⟨w.heap.size, 0, none⟩ = some (.int .i64 0) := own_even (xs := [(0, 0)]) (k := 0) O2.out (by decide)
            have c1 : w2.cell? ⟨w.heap.size, 1, none⟩ = some (.int .i64 0) := own_odd (xs := [(0, 0)]) (k := 0) O2.out (by decide)
            have f0 := O2.out.frozenAt 0
            have f1 := O2.out.frozenAt 1
            have HB2 := Lib.hid (HB1.out.trans (hb2.mono HB1.out.size))
            clear hb2
            rw [← HU.out, ← HK2.out, ← HV2.out]
            go_wp2_with fail
            refine (depthFits_any _ _ _ xs _ _ (H.out.to_below HB2.out) hn Hb.out).mono ?_
            rintro e w' ⟨rfl, rfl⟩
            rw [h5]
            go_wp2
            (try simp only [Exit.inBlock, Exit.then])
            refine bodyPost_ret (v := .tuple #[.agg #[.int .i64 V, .int .i64 V2], .int .i64 ((K : Int) + (K2 : Int)), .int .i64 0]) ?_ rfl ⟨?_, ?_⟩
            · rw [results_cell_tmp2 rfl]
              go_simp
            · rw [Hf.out]
              rfl
            · exact (HB2.out.setCell (Nat.le_refl _) _).setCell (Nat.le_refl _) _

end Go.Proofs.Ytgokllaeggdndaa
