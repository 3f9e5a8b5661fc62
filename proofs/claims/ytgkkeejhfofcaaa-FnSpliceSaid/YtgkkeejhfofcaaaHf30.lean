/- Texts of one claim laid into one file, in build order: Spl. -/
import Derived.Test.YtgkkeejhfofcaaaHf18
import Derived.Test.YtgkkeejhfofcaaaHf20
import Derived.Test.YtgkkeejhfofcaaaHf22
import Derived.Test.YtgkkeejhfofcaaaHf25
import Derived.Test.YtgkkeejhfofcaaaHf28
import Derived.Test.YtgkkeejhfofcaaaHf29
import Derived.Test.YtgkkeejhfofcaaaHf8
import Derived.Deep.RegionHeld3
import Derived.Outline
/- Contracts (Spl). -/
namespace Go.Proofs.Ytgkkeejhfofcaaa
open Go.RowKit
set_option linter.unusedVariables false

theorem info_intSp : (Try.prog.info? 3).map (fun i => (i.zero, i.size, i.bytes)) = some (some (.int .i64 0), 1, 8) := by kernel_rfl
set_option maxHeartbeats 3200000 in
set_option maxRecDepth 100000 in
theorem splice_any (k : Code) (w : World) (hcode : CodeIn w w.heap.size k.a k.cs) (hlen : k.cs.length ≤ 1048576) :
    Calls Try.prog 4 #[.slice k.a k.cs.length k.cap] w fun e w' => e = .returned (.bool true) ∧ Below w.heap.size w w' := by
  have HC := Lib.hid hcode
  clear hcode
  obtain ⟨i0, hi, hz0, hz1, hz2⟩ := info_parts info_intSp
  have Hi := Lib.hid hi
  clear hi
  go_enter Try.func4, Try.ntmps4
  go_wp2_with fail
  refine (big_small _ _ _ (by omega) _).mono ?_
  rintro e w0 ⟨rfl, rfl⟩
  go_wp2_with fail
  refine (drawApplyOpP_ex w k HC.out hlen).mono ?_
  rintro e w1 ⟨xs, A, n, cp, kd, a0, f, z, p, P, m, q, rfl, ha, hcp, hn, hp, hm, hbl⟩
  have HXL := Lib.hid ha.1
  have hpe : m = p.length := by have := hp.1; rw [ints_length] at this; omega
  subst hpe
  obtain ⟨wa, hwa⟩ : ∃ x, x = w1.alloc (.cells #[.int .i64 3, .slice P p.length q, .int .i64 a0, .int .i64 f, .int .i64 z] 39) := ⟨_, rfl⟩
  obtain ⟨b, hbb⟩ : ∃ b, b = w1.heap.size := ⟨_, rfl⟩
  have hba : Below w1.heap.size w1 wa := by rw [hwa]; exact (Below.refl _ _).alloc (Nat.le_refl _) _
  have hsa : wa.heap.size = b + 1 := by rw [hwa, hbb]; simp
  have HBX := Lib.hid (show Bx5 wa b (.int .i64 3) (.slice P p.length q) (.int .i64 a0) (.int .i64 f) (.int .i64 z) by rw [hwa, hbb]; exact Bx5.made _ _ _ _ _ _ _)
  have HFZ := Lib.hid (show ∀ off, wa.frozen? ⟨b, off, none⟩ = false by rw [hwa, hbb]; exact Bx5.free _ _ _ _ _ _ _)
  have HN := Lib.hid (ha.to_below hba)
  have HP := Lib.hid (own_below hp hba)
  have HW := Lib.hid (hbl.trans (hba.mono hbl.size))
  have hwb : w.heap.size ≤ b := by rw [hbb]; exact hbl.size
  have HNb := Lib.hid (show NdIn wa b A n xs by rw [hbb]; exact ha.below hba)
  have HPb := Lib.hid (show ∀ g, (Value.slice P p.length q).ownBlock = some g → g < b from fun g e => by rw [hbb]; exact (hp.lt g e).2)
  have HWA := Lib.hid hwa
  have HBB := Lib.hid hbb
  clear ha hp hbl hba hwa hbb
  go_wp2_with fail
  rw [← HWA.out, ← HBB.out]
  refine (at0_any k.a k.cs.length k.cap k.cs wa (codeIn_on13 HC.out HW.out HW.out.size) rfl hlen).mono ?_
  rintro e w2 ⟨⟨y, hy, rfl⟩, hb⟩
  have HBX := Lib.hid (HBX.out.keep hb)
  have HFZ := Lib.hid (fun (off : Nat) => show w2.frozen? ⟨b, off, none⟩ = false from (hb.frozen (p := ⟨b, off, none⟩) (by show b < _; omega)).trans (HFZ.out off))
  have HN := Lib.hid (HN.out.to_below hb)
  have HP := Lib.hid (own_below HP.out hb)
  have HW := Lib.hid (HW.out.trans (hb.mono (by omega)))
  have hs2 := hb.size
  obtain ⟨wb, hwb2⟩ : ∃ x, x = w2.setCell ⟨b, 2, none⟩ (.int .i64 ((y : Int) % 6)) := ⟨_, rfl⟩
  have gb : w2.grownBy wb (some b) := by rw [hwb2]; exact Kit.grown_set _ _ _ _
  have HBY := Lib.hid (show Bx5 wb b (.int .i64 3) (.slice P p.length q) (.int .i64 ((y : Int) % 6)) (.int .i64 f) (.int .i64 z) by rw [hwb2]; exact HBX.out.put2 _)
  have HNB := Lib.hid (show NdIn wb b A n xs from (HNb.out.below ((show Below b wa w2 from hb.mono (by omega)))).keep (fun pp hp => by rw [hwb2, World.cell?_setCell_other _ _ _ _ (fun e => by subst e; exact Nat.lt_irrefl _ hp)]))
  have hsb : wb.heap.size = w2.heap.size := by rw [hwb2]; simp
  have HN := Lib.hid (HNB.out.more (show b ≤ wb.heap.size by omega))
  have HP := Lib.hid (HP.out.kept gb (by
    by_cases c : (Value.slice P p.length q).ownBlock = none
    · exact .inl c
    · exact .inr (fun e => by have := HPb.out b e; omega)))
  have HW := Lib.hid (HW.out.grown gb HW.out.size (fun g e => by injection e with e; omega))
  have x2 := HBX.out.2.2.1
  have y2 := HFZ.out 2
  have HWB := Lib.hid hwb2
  obtain ⟨z0, z1, z2, z3, z4⟩ := HBY.out
  rw [HWB.out] at z0 z1 z2 z3 z4
  clear hb hwb2 gb hy HBX HFZ HNb HNB
  go_wp2_with fail
  rw [← HWB.out]
  obtain ⟨a, ha⟩ : ∃ a, a = (y : Int) % 6 := ⟨_, rfl⟩
  rw [← ha] at HBY ⊢
  clear ha z0 z1 z2 z3 z4 x2 y2 HWB
  obtain ⟨R, hR⟩ : ∃ R, R = Oc.apply xs ⟨3, p, a, f, z⟩ := ⟨_, rfl⟩
  have HR := Lib.hid hR
  have hRl : R.1.length ≤ 24 := by rw [hR]; exact Oc.apply_len _ _
  clear hR
  refine (implApplyOp_any A n cp xs 3 a f z p P p.length q wb HN.out (IntIn.of_own HP.out) (by omega) (by omega) hcp).mono ?_
  rw [← HR.out]
  rintro e w3 ⟨A3, c3, rfl, ho3, hb⟩
  have HBY := Lib.hid (HBY.out.keep hb)
  have HN := Lib.hid (HN.out.to_below hb)
  have HP := Lib.hid (own_below HP.out hb)
  have HW := Lib.hid (HW.out.trans (hb.mono (by omega)))
  have HX := Lib.hid (NdIn.of_own ho3)
  have HC3 := Lib.hid (own_cap ho3)
  have hs3 := hb.size
  clear hb ho3
  by_cases hc : R.2 = 0
  rotate_left
  · have q1 : (R.2 != 0) = true := by simp [hc]
    have q2 : (R.2 == R.2) = true := by simp
    obtain ⟨z0, z1, z2, z3, z4⟩ := HBY.out
    clear hc
    go_wp2_with fail
    refine (specApplyOp_any A n cp xs 3 a f z p P p.length q w3 HN.out (IntIn.of_own HP.out) (by omega) (by omega)).mono ?_
    rw [← HR.out]
    rintro e w4 ⟨A4, c4, rfl, ho4, hb⟩
    have HW := Lib.hid (HW.out.trans (hb.mono (by omega)))
    clear hb ho4
    go_wp2
    go_ret
    exact ⟨rfl, HW.out⟩
  have q1 : (R.2 != 0) = false := by simp [hc]
  obtain ⟨okx, okR, i, g, n1, n2, n3, n4, n5, n6, n7⟩ := Oc.spliced (xs := xs) (p := p) (a := a) (f := f) (z := z) (by rw [← HR.out]; exact hc)
  rw [← HR.out] at okR n2 n3 n4 n5 n6 n7
  have HA1 := Lib.hid n1
  have HA2 := Lib.hid n2
  have HA7 := Lib.hid n7
  have HA4 := Lib.hid n4
  obtain ⟨k1, hk1⟩ : ∃ k1, k1 = (Tr.kidsI R.1 (g : Int)).length := ⟨_, rfl⟩
  obtain ⟨k2, hk2⟩ : ∃ k2, k2 = (Tr.kidsI R.1 (i : Int)).length := ⟨_, rfl⟩
  obtain ⟨k3, hk3⟩ : ∃ k3, k3 = (Tr.kidsI xs (i : Int)).length := ⟨_, rfl⟩
  rw [← hk1] at n5
  rw [← hk2, ← hk3] at n6
  have HK1 := Lib.hid hk1
  have HK2 := Lib.hid hk2
  have HK3 := Lib.hid hk3
  have HKB := Lib.hid (show k3 ≤ 31 by rw [hk3]; exact Nat.le_trans (Tr.kidsI_len xs (i : Int)) (by rw [HXL.out]; exact hn))
  have HZ := Lib.hid (And.intro n5 n6)
  obtain ⟨ax, rfl, _⟩ := HX.out.2.1 (by omega)
  have hgl := n3
  clear n1 n2 n3 n4 n5 n6 n7 okx okR hk1 hk2 hk3 hc
  have SK := Lib.hid (fun (wq : World) (hb : Below w3.heap.size w3 wq) => show wq.cell? ⟨b, 1, none⟩ = some (.slice P p.length q) ∧ wq.cell? ⟨b, 3, none⟩ = some (.int .i64 f) from ⟨(hb.cell (p := ⟨b, 1, none⟩) HBY.out.lt).trans HBY.out.2.1, (hb.cell (p := ⟨b, 3, none⟩) HBY.out.lt).trans HBY.out.2.2.2.1⟩)
  have HS3 := Lib.hid hs3
  go_upto_region 10 with fail
  go_cut [9] from 42 to 112 (fun v9 wq => v9 = .int .i64 (g : Int) ∧ Below w3.heap.size w3 wq)
  case first =>
    refine wp_region_held_drew (S := fun wq => wq.cell? ⟨b, 1, none⟩ = some (.slice P p.length q) ∧ wq.cell? ⟨b, 3, none⟩ = some (.int .i64 f)) (by kernel_rfl) (SK.out _ (show Below w3.heap.size w3 w3.drew from (Drawn.refl _).drew.toBelow)) (fun hHeld => ?_)
    obtain ⟨wv0, hw0⟩ : ∃ x, x = w3.drew := ⟨_, rfl⟩
    have HBq := Lib.hid (show Below w3.heap.size w3 wv0 by rw [hw0]; exact (Drawn.refl _).drew.toBelow)
    rw [← hw0] at hHeld ⊢
    clear hw0
    refine rg_take (i := 0) (v := ?_) rfl (by kernel_rfl) (by kernel_rfl) (by kernel_rfl) (fun _ _ _ h => h) (by rfl) ?_ (by assumption) ?_
    rotate_left
    · intro w hSw
      (try dsimp only at hSw)
      go_simp
      (try with_reducible rfl)
    (try simp only [Act.put, List.setIfInBounds_toArray, List.set_cons_zero, List.set_cons_succ])
    refine rg_take (i := 2) (v := ?_) rfl (by kernel_rfl) (by kernel_rfl) (by kernel_rfl) (fun _ _ _ h => h) (by rfl) ?_ (by assumption) ?_
    rotate_left
    · intro w hSw
      (try dsimp only at hSw)
      go_simp
      (try with_reducible rfl)
    (try simp only [Act.put, List.setIfInBounds_toArray, List.set_cons_zero, List.set_cons_succ])
    refine rg_take (i := 3) (v := ?_) rfl (by kernel_rfl) (by kernel_rfl) (by kernel_rfl) (fun _ _ _ h => h) (by rfl) ?_ (by assumption) ?_
    rotate_left
    · intro w hSw
      (try dsimp only at hSw)
      go_simp
      (try with_reducible rfl)
    (try simp only [Act.put, List.setIfInBounds_toArray, List.set_cons_zero, List.set_cons_succ])
    refine rg_take (i := 5) (v := ?_) rfl (by kernel_rfl) (by kernel_rfl) (by kernel_rfl) (fun _ _ _ h => h) (by rfl) ?_ (by assumption) ?_
    rotate_left
    · intro w hSw
      (try dsimp only at hSw)
      go_simp
      (try with_reducible rfl)
    (try simp only [Act.put, List.setIfInBounds_toArray, List.set_cons_zero, List.set_cons_succ])
    refine rg_take (i := 6) (v := ?_) rfl (by kernel_rfl) (by kernel_rfl) (by kernel_rfl) (fun _ _ _ h => h) (by rfl) ?_ (by assumption) ?_
    rotate_left
    · intro w hSw
      (try dsimp only at hSw)
      go_simp
      (try with_reducible rfl)
    (try simp only [Act.put, List.setIfInBounds_toArray, List.set_cons_zero, List.set_cons_succ])
    refine wpAnyH_ready (rs := [1, 7]) (by kernel_rfl) (by simp) ?_
    refine AllReadyH.cons rfl (fun K hK => ?_) ?_
    · go_simp
      obtain ⟨g0, hg0⟩ : ∃ x, x = (World.heap wv0).size := ⟨_, rfl⟩
      have o0 : (World.alloc wv0 (.cells #[] 3)).ownsRow w3.heap.size 3 1 (.slice (some ⟨(World.heap wv0).size, 0, none⟩) 0 0) 0 (ints []) := World.ownsRow_lit (base := w3.heap.size) (e := 3) (size := 1) wv0 #[] 0 HBq.out.size (by decide) rfl
      have ba : Below (World.heap wv0).size wv0 (World.alloc wv0 (.cells #[] 3)) := (Below.refl _ _).alloc (Nat.le_refl _) _
      have bq := HBq.out.trans (ba.mono HBq.out.size)
      generalize hwy : World.alloc _ _ = wv1
      rw [hwy] at bq o0
      rw [← hg0] at o0 ⊢
      have HBq := Lib.hid bq
      have O0 := Lib.hid o0
      clear bq hwy hg0 ba o0
      refine hK.out _ _ (SK.out _ HBq.out) (fun hHeld => ?_)
      clear hK K
      (try simp only [Act.put, List.setIfInBounds_toArray, List.set_cons_zero, List.set_cons_succ])
      refine wpAnyH_ready (rs := [4, 7]) (by kernel_rfl) (by simp) ?_
      refine AllReadyH.cons rfl (fun K hK => ?_) ?_
      · refine step_append_own wv1 rfl _ _ 29 rfl w3.heap.size 3 i0 Try.underlying29 Hi.out hz0 hz1 hz2 (.slice (some ⟨g0, 0, none⟩) 0 0) 0 [] rfl O0.out (.slice P p.length q) p.length _ p rfl (own_below HP.out HBq.out) (by omega) HBq.out.size ?_
        intro v4 wv2 o4 hg4
        rw [Nat.zero_add, List.nil_append] at o4
        obtain ⟨A4, c4, rfl⟩ := own_slice o4
        have HBq := Lib.hid (HBq.out.grown hg4 HBq.out.size (fun k e => (O0.out.lt k e).1))
        have O4 := Lib.hid o4
        clear o4 hg4
        refine hK.out _ _ (SK.out _ HBq.out) (fun hHeld => ?_)
        clear hK K
        refine wpAnyH_ready (rs := [7]) (by kernel_rfl) (by simp) ?_
        refine AllReadyH.cons rfl (fun K hK => ?_) ?_
        · go_simp
          obtain ⟨g7, hg7⟩ : ∃ x, x = (World.heap wv2).size := ⟨_, rfl⟩
          have o7 : (World.alloc wv2 (.cells #[.int .i64 f] 3)).ownsRow w3.heap.size 3 1 (.slice (some ⟨(World.heap wv2).size, 0, none⟩) 1 1) 1 (ints [f]) := World.ownsRow_lit (base := w3.heap.size) (e := 3) (size := 1) wv2 #[.int .i64 f] 1 HBq.out.size (by decide) rfl
          have ba : Below (World.heap wv2).size wv2 (World.alloc wv2 (.cells #[.int .i64 f] 3)) := (Below.refl _ _).alloc (Nat.le_refl _) _
          have o4 := own_below O4.out ba
          have bq := HBq.out.trans (ba.mono HBq.out.size)
          generalize hwy : World.alloc _ _ = wv3
          rw [hwy] at bq o7 o4
          rw [← hg7] at o7 ⊢
          have HBq := Lib.hid bq
          have O4 := Lib.hid o4
          have O7 := Lib.hid o7
          clear bq hwy hg7 ba o4 o7
          refine hK.out _ _ (SK.out _ HBq.out) (fun hHeld => ?_)
          clear hK K
          (try simp only [Act.put, List.setIfInBounds_toArray, List.set_cons_zero, List.set_cons_succ])
          refine wpAnyH_ready (rs := [8]) (by kernel_rfl) (by simp) ?_
          refine AllReadyH.cons rfl (fun K hK => ?_) ?_
          · refine step_append_own wv3 rfl _ _ 29 rfl w3.heap.size 3 i0 Try.underlying29 Hi.out hz0 hz1 hz2 (.slice A4 p.length c4) p.length p rfl O4.out (.slice (some ⟨g7, 0, none⟩) 1 1) 1 _ [f] rfl O7.out (by omega) HBq.out.size ?_
            intro v8 wv4 o8 hg8
            obtain ⟨A8, c8, rfl⟩ := own_slice o8
            have HBq := Lib.hid (HBq.out.grown hg8 HBq.out.size (fun k e => (O4.out.lt k e).1))
            have O8 := Lib.hid o8
            clear o8 hg8
            refine hK.out _ _ (SK.out _ HBq.out) (fun hHeld => ?_)
            clear hK K
            refine wpAnyH_ready (rs := [9]) (by kernel_rfl) (by simp) ?_
            refine AllReadyH.cons rfl (fun K hK => ?_) ?_
            · go_simp
              go_at_call 23
              refine (specNodeAt_any _ A8 R.1.length c3 (p.length + 1) c8 R.1 (p ++ [f]) wv4 (HX.out.to_below HBq.out) (IntIn.of_own O8.out) (by omega) (by omega)).mono ?_
              rintro e wv5 ⟨rfl, hb9⟩
              rw [HA2.out]
              have HBq := Lib.hid (HBq.out.trans (hb9.mono HBq.out.size))
              clear hb9
              go_wp2_with fail
              refine hK.out _ _ (SK.out _ HBq.out) (fun hHeld => ?_)
              clear hK K
              (try simp only [Act.put, List.setIfInBounds_toArray, List.set_cons_zero, List.set_cons_succ])
              refine rg_take (i := 10) (v := ?_) rfl (by kernel_rfl) (by kernel_rfl) (by kernel_rfl) (fun _ _ _ h => h) (by rfl) ?_ (by assumption) ?_
              rotate_left
              · intro w hSw
                (try dsimp only at hSw)
                go_simp
                (try with_reducible rfl)
              (try simp only [Act.put, List.setIfInBounds_toArray, List.set_cons_zero, List.set_cons_succ])
              refine wpAnyH_done (by kernel_rfl) ?_ _
              go_wp2_with fail
              go_meet
              exact ⟨rfl, HBq.out⟩
            exact AllReadyH.nil
          exact AllReadyH.nil
        exact AllReadyH.nil
      refine AllReadyH.cons rfl (fun K hK => ?_) ?_
      · go_simp
        obtain ⟨g7, hg7⟩ : ∃ x, x = (World.heap wv1).size := ⟨_, rfl⟩
        have o7 : (World.alloc wv1 (.cells #[.int .i64 f] 3)).ownsRow w3.heap.size 3 1 (.slice (some ⟨(World.heap wv1).size, 0, none⟩) 1 1) 1 (ints [f]) := World.ownsRow_lit (base := w3.heap.size) (e := 3) (size := 1) wv1 #[.int .i64 f] 1 HBq.out.size (by decide) rfl
        have ba : Below (World.heap wv1).size wv1 (World.alloc wv1 (.cells #[.int .i64 f] 3)) := (Below.refl _ _).alloc (Nat.le_refl _) _
        have N07 : g0 ≠ g7 := by have := (O0.out.lt g0 rfl).2; omega
        have o0 := own_below O0.out ba
        have bq := HBq.out.trans (ba.mono HBq.out.size)
        generalize hwy : World.alloc _ _ = wv2
        rw [hwy] at bq o7 o0
        rw [← hg7] at o7 ⊢
        have HBq := Lib.hid bq
        have O0 := Lib.hid o0
        have O7 := Lib.hid o7
        clear bq hwy hg7 ba o0 o7
        refine hK.out _ _ (SK.out _ HBq.out) (fun hHeld => ?_)
        clear hK K
        (try simp only [Act.put, List.setIfInBounds_toArray, List.set_cons_zero, List.set_cons_succ])
        refine wpAnyH_ready (rs := [4]) (by kernel_rfl) (by simp) ?_
        refine AllReadyH.cons rfl (fun K hK => ?_) ?_
        · refine step_append_own wv2 rfl _ _ 29 rfl w3.heap.size 3 i0 Try.underlying29 Hi.out hz0 hz1 hz2 (.slice (some ⟨g0, 0, none⟩) 0 0) 0 [] rfl O0.out (.slice P p.length q) p.length _ p rfl (own_below HP.out HBq.out) (by omega) HBq.out.size ?_
          intro v4 wv3 o4 hg4
          rw [Nat.zero_add, List.nil_append] at o4
          obtain ⟨A4, c4, rfl⟩ := own_slice o4
          have O7 := Lib.hid (O7.out.kept hg4 (.inr (fun e => N07 (Option.some.inj e).symm)))
          have HBq := Lib.hid (HBq.out.grown hg4 HBq.out.size (fun k e => (O0.out.lt k e).1))
          have O4 := Lib.hid o4
          clear o4 hg4
          refine hK.out _ _ (SK.out _ HBq.out) (fun hHeld => ?_)
          clear hK K
          refine wpAnyH_ready (rs := [8]) (by kernel_rfl) (by simp) ?_
          refine AllReadyH.cons rfl (fun K hK => ?_) ?_
          · refine step_append_own wv3 rfl _ _ 29 rfl w3.heap.size 3 i0 Try.underlying29 Hi.out hz0 hz1 hz2 (.slice A4 p.length c4) p.length p rfl O4.out (.slice (some ⟨g7, 0, none⟩) 1 1) 1 _ [f] rfl O7.out (by omega) HBq.out.size ?_
            intro v8 wv4 o8 hg8
            obtain ⟨A8, c8, rfl⟩ := own_slice o8
            have HBq := Lib.hid (HBq.out.grown hg8 HBq.out.size (fun k e => (O4.out.lt k e).1))
            have O8 := Lib.hid o8
            clear o8 hg8
            refine hK.out _ _ (SK.out _ HBq.out) (fun hHeld => ?_)
            clear hK K
            refine wpAnyH_ready (rs := [9]) (by kernel_rfl) (by simp) ?_
            refine AllReadyH.cons rfl (fun K hK => ?_) ?_
            · go_simp
              go_at_call 23
              refine (specNodeAt_any _ A8 R.1.length c3 (p.length + 1) c8 R.1 (p ++ [f]) wv4 (HX.out.to_below HBq.out) (IntIn.of_own O8.out) (by omega) (by omega)).mono ?_
              rintro e wv5 ⟨rfl, hb9⟩
              rw [HA2.out]
              have HBq := Lib.hid (HBq.out.trans (hb9.mono HBq.out.size))
              clear hb9
              go_wp2_with fail
              refine hK.out _ _ (SK.out _ HBq.out) (fun hHeld => ?_)
              clear hK K
              (try simp only [Act.put, List.setIfInBounds_toArray, List.set_cons_zero, List.set_cons_succ])
              refine rg_take (i := 10) (v := ?_) rfl (by kernel_rfl) (by kernel_rfl) (by kernel_rfl) (fun _ _ _ h => h) (by rfl) ?_ (by assumption) ?_
              rotate_left
              · intro w hSw
                (try dsimp only at hSw)
                go_simp
                (try with_reducible rfl)
              (try simp only [Act.put, List.setIfInBounds_toArray, List.set_cons_zero, List.set_cons_succ])
              refine wpAnyH_done (by kernel_rfl) ?_ _
              go_wp2_with fail
              go_meet
              exact ⟨rfl, HBq.out⟩
            exact AllReadyH.nil
          exact AllReadyH.nil
        exact AllReadyH.nil
      exact AllReadyH.nil
    refine AllReadyH.cons rfl (fun K hK => ?_) ?_
    · go_simp
      obtain ⟨g7, hg7⟩ : ∃ x, x = (World.heap wv0).size := ⟨_, rfl⟩
      have o7 : (World.alloc wv0 (.cells #[.int .i64 f] 3)).ownsRow w3.heap.size 3 1 (.slice (some ⟨(World.heap wv0).size, 0, none⟩) 1 1) 1 (ints [f]) := World.ownsRow_lit (base := w3.heap.size) (e := 3) (size := 1) wv0 #[.int .i64 f] 1 HBq.out.size (by decide) rfl
      have ba : Below (World.heap wv0).size wv0 (World.alloc wv0 (.cells #[.int .i64 f] 3)) := (Below.refl _ _).alloc (Nat.le_refl _) _
      have bq := HBq.out.trans (ba.mono HBq.out.size)
      generalize hwy : World.alloc _ _ = wv1
      rw [hwy] at bq o7
      rw [← hg7] at o7 ⊢
      have HBq := Lib.hid bq
      have O7 := Lib.hid o7
      clear bq hwy hg7 ba o7
      refine hK.out _ _ (SK.out _ HBq.out) (fun hHeld => ?_)
      clear hK K
      (try simp only [Act.put, List.setIfInBounds_toArray, List.set_cons_zero, List.set_cons_succ])
      refine wpAnyH_ready (rs := [1]) (by kernel_rfl) (by simp) ?_
      refine AllReadyH.cons rfl (fun K hK => ?_) ?_
      · go_simp
        obtain ⟨g0, hg0⟩ : ∃ x, x = (World.heap wv1).size := ⟨_, rfl⟩
        have o0 : (World.alloc wv1 (.cells #[] 3)).ownsRow w3.heap.size 3 1 (.slice (some ⟨(World.heap wv1).size, 0, none⟩) 0 0) 0 (ints []) := World.ownsRow_lit (base := w3.heap.size) (e := 3) (size := 1) wv1 #[] 0 HBq.out.size (by decide) rfl
        have ba : Below (World.heap wv1).size wv1 (World.alloc wv1 (.cells #[] 3)) := (Below.refl _ _).alloc (Nat.le_refl _) _
        have N70 : g7 ≠ g0 := by have := (O7.out.lt g7 rfl).2; omega
        have o7 := own_below O7.out ba
        have bq := HBq.out.trans (ba.mono HBq.out.size)
        generalize hwy : World.alloc _ _ = wv2
        rw [hwy] at bq o0 o7
        rw [← hg0] at o0 ⊢
        have HBq := Lib.hid bq
        have O7 := Lib.hid o7
        have O0 := Lib.hid o0
        clear bq hwy hg0 ba o7 o0
        refine hK.out _ _ (SK.out _ HBq.out) (fun hHeld => ?_)
        clear hK K
        (try simp only [Act.put, List.setIfInBounds_toArray, List.set_cons_zero, List.set_cons_succ])
        refine wpAnyH_ready (rs := [4]) (by kernel_rfl) (by simp) ?_
        refine AllReadyH.cons rfl (fun K hK => ?_) ?_
        · refine step_append_own wv2 rfl _ _ 29 rfl w3.heap.size 3 i0 Try.underlying29 Hi.out hz0 hz1 hz2 (.slice (some ⟨g0, 0, none⟩) 0 0) 0 [] rfl O0.out (.slice P p.length q) p.length _ p rfl (own_below HP.out HBq.out) (by omega) HBq.out.size ?_
          intro v4 wv3 o4 hg4
          rw [Nat.zero_add, List.nil_append] at o4
          obtain ⟨A4, c4, rfl⟩ := own_slice o4
          have O7 := Lib.hid (O7.out.kept hg4 (.inr (fun e => N70.symm (Option.some.inj e).symm)))
          have HBq := Lib.hid (HBq.out.grown hg4 HBq.out.size (fun k e => (O0.out.lt k e).1))
          have O4 := Lib.hid o4
          clear o4 hg4
          refine hK.out _ _ (SK.out _ HBq.out) (fun hHeld => ?_)
          clear hK K
          refine wpAnyH_ready (rs := [8]) (by kernel_rfl) (by simp) ?_
          refine AllReadyH.cons rfl (fun K hK => ?_) ?_
          · refine step_append_own wv3 rfl _ _ 29 rfl w3.heap.size 3 i0 Try.underlying29 Hi.out hz0 hz1 hz2 (.slice A4 p.length c4) p.length p rfl O4.out (.slice (some ⟨g7, 0, none⟩) 1 1) 1 _ [f] rfl O7.out (by omega) HBq.out.size ?_
            intro v8 wv4 o8 hg8
            obtain ⟨A8, c8, rfl⟩ := own_slice o8
            have HBq := Lib.hid (HBq.out.grown hg8 HBq.out.size (fun k e => (O4.out.lt k e).1))
            have O8 := Lib.hid o8
            clear o8 hg8
            refine hK.out _ _ (SK.out _ HBq.out) (fun hHeld => ?_)
            clear hK K
            refine wpAnyH_ready (rs := [9]) (by kernel_rfl) (by simp) ?_
            refine AllReadyH.cons rfl (fun K hK => ?_) ?_
            · go_simp
              go_at_call 23
              refine (specNodeAt_any _ A8 R.1.length c3 (p.length + 1) c8 R.1 (p ++ [f]) wv4 (HX.out.to_below HBq.out) (IntIn.of_own O8.out) (by omega) (by omega)).mono ?_
              rintro e wv5 ⟨rfl, hb9⟩
              rw [HA2.out]
              have HBq := Lib.hid (HBq.out.trans (hb9.mono HBq.out.size))
              clear hb9
              go_wp2_with fail
              refine hK.out _ _ (SK.out _ HBq.out) (fun hHeld => ?_)
              clear hK K
              (try simp only [Act.put, List.setIfInBounds_toArray, List.set_cons_zero, List.set_cons_succ])
              refine rg_take (i := 10) (v := ?_) rfl (by kernel_rfl) (by kernel_rfl) (by kernel_rfl) (fun _ _ _ h => h) (by rfl) ?_ (by assumption) ?_
              rotate_left
              · intro w hSw
                (try dsimp only at hSw)
                go_simp
                (try with_reducible rfl)
              (try simp only [Act.put, List.setIfInBounds_toArray, List.set_cons_zero, List.set_cons_succ])
              refine wpAnyH_done (by kernel_rfl) ?_ _
              go_wp2_with fail
              go_meet
              exact ⟨rfl, HBq.out⟩
            exact AllReadyH.nil
          exact AllReadyH.nil
        exact AllReadyH.nil
      exact AllReadyH.nil
    exact AllReadyH.nil
  case rest =>
    obtain ⟨rfl, hB4⟩ := hcut
    have HB4 := Lib.hid hB4
    have HX := Lib.hid (HX.out.to_below hB4)
    have HN := Lib.hid (HN.out.to_below hB4)
    have HBY := Lib.hid (HBY.out.keep hB4)
    have HP := Lib.hid (own_below HP.out hB4)
    have HW := Lib.hid (HW.out.trans (hB4.mono (by omega)))
    have hs4 := hB4.size
    clear hB4
    have z1 := HBY.out.2.1
    go_wp2_with fail
    refine (specNodeAt_any A P n cp p.length q xs p wc HN.out (IntIn.of_own HP.out) (by omega) (by omega)).mono ?_
    rintro e w4 ⟨rfl, hb⟩
    rw [HA1.out]
    have HX := Lib.hid (HX.out.to_below hb)
    have HN := Lib.hid (HN.out.to_below hb)
    have HBY := Lib.hid (HBY.out.keep hb)
    have HP := Lib.hid (own_below HP.out hb)
    have HW := Lib.hid (HW.out.trans (hb.mono (by omega)))
    have hs5 := hb.size
    clear hb z1
    have g0 : decide ((g : Int) < 0) = false := by simp
    have g1 : (0 : Int) ≤ (g : Int) := by omega
    have g2 : (g : Int) < (R.1.length : Int) := by omega
    have q3 : (a != a) = false := by simp
    have hkb := HKB.out
    obtain ⟨hz1, hz2⟩ := HZ.out
    have q4 : ((k1 : Int) != z) = false := by simp [hz1]
    have a1 : IntKind.i64.wrap ((k3 : Int) - z) = (k3 : Int) - z := Kit.w64 (by omega) (by omega)
    have a2 : IntKind.i64.wrap ((k3 : Int) - z + 1) = (k3 : Int) - z + 1 := Kit.w64 (by omega) (by omega)
    have q5 : ((k2 : Int) != (k3 : Int) - z + 1) = false := by simp [hz2]
    have S0 := Lib.hid (show w4.drew.cell? (ax.add (g * 2)) = some (.int .i64 a) ∧ w4.drew.cell? ⟨b, 2, none⟩ = some (.int .i64 a) ∧ w4.drew.cell? ⟨b, 4, none⟩ = some (.int .i64 z) ∧ BelA w4 w4.drew from ⟨by rw [← HA4.out]; exact (HX.out.here hgl).1, HBY.out.2.2.1, HBY.out.2.2.2.2, (Drawn.refl _).drew.toBelow⟩)
    have KP := Lib.hid (fun (wx wy : World) (h : wx.cell? (ax.add (g * 2)) = some (.int .i64 a) ∧ wx.cell? ⟨b, 2, none⟩ = some (.int .i64 a) ∧ wx.cell? ⟨b, 4, none⟩ = some (.int .i64 z) ∧ BelA w4 wx) (hb : Below wx.heap.size wx wy) => show wy.cell? (ax.add (g * 2)) = some (.int .i64 a) ∧ wy.cell? ⟨b, 2, none⟩ = some (.int .i64 a) ∧ wy.cell? ⟨b, 4, none⟩ = some (.int .i64 z) ∧ BelA w4 wy from ⟨(hb.cell (World.block_lt_of_cell? _ _ h.1)).trans h.1, (hb.cell (p := ⟨b, 2, none⟩) (World.block_lt_of_cell? _ _ h.2.1)).trans h.2.1, (hb.cell (p := ⟨b, 4, none⟩) (World.block_lt_of_cell? _ _ h.2.2.1)).trans h.2.2.1, bel_trans h.2.2.2 hb⟩)
    have C1 := Lib.hid (fun (wq : World) (hb : Below w4.heap.size w4 wq) => specKidsOf_any (some ax) R.1.length c3 R.1 (g : Int) wq (HX.out.to_below hb) (by omega))
    have C2 := Lib.hid (fun (wq : World) (hb : Below w4.heap.size w4 wq) => specKidsOf_any (some ax) R.1.length c3 R.1 (i : Int) wq (HX.out.to_below hb) (by omega))
    have C3 := Lib.hid (fun (wq : World) (hb : Below w4.heap.size w4 wq) => specKidsOf_any A n cp xs (i : Int) wq (HN.out.to_below hb) (by omega))
    clear hz1 hz2
    go_upto_region 12 with fail
    go_cut [91] from 56 to 112 (fun v91 wq => v91 = .bool false ∧ Below w4.heap.size w4 wq)
    case first =>
      refine wp_region_held_drew (S := fun wq => wq.cell? (ax.add (g * 2)) = some (.int .i64 a) ∧ wq.cell? ⟨b, 2, none⟩ = some (.int .i64 a) ∧ wq.cell? ⟨b, 4, none⟩ = some (.int .i64 z) ∧ BelA w4 wq) (by kernel_rfl) S0.out (fun hHeld => ?_)
      refine rg_take (i := 0) (v := ?_) rfl (by kernel_rfl) (by kernel_rfl) (by kernel_rfl) (fun _ _ _ h => h) (by rfl) ?_ (by assumption) ?_
      rotate_left
      · intro w hSw
        (try dsimp only at hSw)
        go_simp
        (try with_reducible rfl)
      (try simp only [Act.put, List.setIfInBounds_toArray, List.set_cons_zero, List.set_cons_succ])
      refine rg_take (i := 1) (v := ?_) rfl (by kernel_rfl) (by kernel_rfl) (by kernel_rfl) (fun _ _ _ h => h) (by rfl) ?_ (by assumption) ?_
      rotate_left
      · intro w hSw
        (try dsimp only at hSw)
        go_simp
        (try with_reducible rfl)
      (try simp only [Act.put, List.setIfInBounds_toArray, List.set_cons_zero, List.set_cons_succ])
      refine rg_take (i := 2) (v := ?_) rfl (by kernel_rfl) (by kernel_rfl) (by kernel_rfl) (fun _ _ _ h => h) (by rfl) ?_ (by assumption) ?_
      rotate_left
      · intro w hSw
        (try dsimp only at hSw)
        go_simp
        (try with_reducible rfl)
      (try simp only [Act.put, List.setIfInBounds_toArray, List.set_cons_zero, List.set_cons_succ])
      refine rg_take (i := 3) (v := ?_) rfl (by kernel_rfl) (by kernel_rfl) (by kernel_rfl) (fun _ _ _ h => h) (by rfl) ?_ (by assumption) ?_
      rotate_left
      · intro w hSw
        (try dsimp only at hSw)
        go_simp
        (try with_reducible rfl)
      (try simp only [Act.put, List.setIfInBounds_toArray, List.set_cons_zero, List.set_cons_succ])
      refine rg_take (i := 4) (v := ?_) rfl (by kernel_rfl) (by kernel_rfl) (by kernel_rfl) (fun _ _ _ h => h) (by rfl) ?_ (by assumption) ?_
      rotate_left
      · intro w hSw
        (try dsimp only at hSw)
        go_simp
        (try with_reducible rfl)
      (try simp only [Act.put, List.setIfInBounds_toArray, List.set_cons_zero, List.set_cons_succ])
      refine rg_take (i := 5) (v := ?_) rfl (by kernel_rfl) (by kernel_rfl) (by kernel_rfl) (fun _ _ _ h => h) (by rfl) ?_ (by assumption) ?_
      rotate_left
      · intro w hSw
        (try dsimp only at hSw)
        go_simp
        (try with_reducible rfl)
      (try simp only [Act.put, List.setIfInBounds_toArray, List.set_cons_zero, List.set_cons_succ])
      refine rg_take (i := 6) (v := ?_) rfl (by kernel_rfl) (by kernel_rfl) (by kernel_rfl) (fun _ _ _ h => h) (by rfl) ?_ (by assumption) ?_
      rotate_left
      · intro w hSw
        (try dsimp only at hSw)
        go_simp
        (try with_reducible rfl)
      (try simp only [Act.put, List.setIfInBounds_toArray, List.set_cons_zero, List.set_cons_succ])
      refine rg_take (i := 7) (v := ?_) rfl (by kernel_rfl) (by kernel_rfl) (by kernel_rfl) (fun _ _ _ h => h) (by rfl) ?_ (by assumption) ?_
      rotate_left
      · intro w hSw
        (try dsimp only at hSw)
        go_simp
        (try with_reducible rfl)
      (try simp only [Act.put, List.setIfInBounds_toArray, List.set_cons_zero, List.set_cons_succ])
      refine rg_take (i := 8) (v := ?_) rfl (by kernel_rfl) (by kernel_rfl) (by kernel_rfl) (fun _ _ _ h => h) (by rfl) ?_ (by assumption) ?_
      rotate_left
      · intro w hSw
        (try dsimp only at hSw)
        go_simp
        (try with_reducible rfl)
      (try simp only [Act.put, List.setIfInBounds_toArray, List.set_cons_zero, List.set_cons_succ])
      refine rg_take (i := 9) (v := ?_) rfl (by kernel_rfl) (by kernel_rfl) (by kernel_rfl) (fun _ _ _ h => h) (by rfl) ?_ (by assumption) ?_
      rotate_left
      · intro w hSw
        (try dsimp only at hSw)
        go_simp
        (try with_reducible rfl)
      (try simp only [Act.put, List.setIfInBounds_toArray, List.set_cons_zero, List.set_cons_succ])
      refine rg_take (i := 10) (v := ?_) rfl (by kernel_rfl) (by kernel_rfl) (by kernel_rfl) (fun _ _ _ h => h) (by rfl) ?_ (by assumption) ?_
      rotate_left
      · intro w hSw
        (try dsimp only at hSw)
        go_simp
        (try with_reducible rfl)
      (try simp only [Act.put, List.setIfInBounds_toArray, List.set_cons_zero, List.set_cons_succ])
      refine rg_take (i := 11) (v := ?_) rfl (by kernel_rfl) (by kernel_rfl) (by kernel_rfl) (fun _ _ _ h => h) (by rfl) ?_ (by assumption) ?_
      rotate_left
      · intro w hSw
        (try dsimp only at hSw)
        go_simp
        (try with_reducible rfl)
      (try simp only [Act.put, List.setIfInBounds_toArray, List.set_cons_zero, List.set_cons_succ])
      refine rg_take (i := 12) (v := ?_) rfl (by kernel_rfl) (by kernel_rfl) (by kernel_rfl) (fun _ _ _ h => h) (by rfl) ?_ (by assumption) ?_
      rotate_left
      · intro w hSw
        (try dsimp only at hSw)
        go_simp
        (try with_reducible rfl)
      (try simp only [Act.put, List.setIfInBounds_toArray, List.set_cons_zero, List.set_cons_succ])
      refine rg_take (i := 13) (v := ?_) rfl (by kernel_rfl) (by kernel_rfl) (by kernel_rfl) (fun _ _ _ h => h) (by rfl) ?_ (by assumption) ?_
      rotate_left
      · intro w hSw
        (try dsimp only at hSw)
        go_simp
        (try with_reducible rfl)
      (try simp only [Act.put, List.setIfInBounds_toArray, List.set_cons_zero, List.set_cons_succ])
      refine rg_take (i := 14) (v := ?_) rfl (by kernel_rfl) (by kernel_rfl) (by kernel_rfl) (fun _ _ _ h => h) (by rfl) ?_ (by assumption) ?_
      rotate_left
      · intro w hSw
        (try dsimp only at hSw)
        go_simp
        (try with_reducible rfl)
      (try simp only [Act.put, List.setIfInBounds_toArray, List.set_cons_zero, List.set_cons_succ])
      refine rg_take (i := 17) (v := ?_) rfl (by kernel_rfl) (by kernel_rfl) (by kernel_rfl) (fun _ _ _ h => h) (by rfl) ?_ (by assumption) ?_
      rotate_left
      · intro w hSw
        (try dsimp only at hSw)
        go_simp
        (try with_reducible rfl)
      (try simp only [Act.put, List.setIfInBounds_toArray, List.set_cons_zero, List.set_cons_succ])
      refine rg_take (i := 18) (v := ?_) rfl (by kernel_rfl) (by kernel_rfl) (by kernel_rfl) (fun _ _ _ h => h) (by rfl) ?_ (by assumption) ?_
      rotate_left
      · intro w hSw
        (try dsimp only at hSw)
        go_simp
        (try with_reducible rfl)
      (try simp only [Act.put, List.setIfInBounds_toArray, List.set_cons_zero, List.set_cons_succ])
      refine wpAnyH_ready (rs := [15]) (by kernel_rfl) (by simp) ?_
      refine AllReadyH.cons rfl (fun K hK => ?_) ?_
      · go_simp
        go_at_call 24
        refine (C1.out _ (bel_of S0.out.2.2.2)).mono ?_
        rintro e w5 ⟨A5, c5, rfl, ho5, hb5⟩
        rw [← HK1.out]
        have SD5 := KP.out _ _ S0.out hb5
        clear ho5 hb5
        go_wp2_with fail
        refine hK.out _ _ SD5 (fun hHeld => ?_)
        clear hK K
        (try simp only [Act.put, List.setIfInBounds_toArray, List.set_cons_zero, List.set_cons_succ])
        refine rg_take (i := 16) (v := ?_) rfl (by kernel_rfl) (by kernel_rfl) (by kernel_rfl) (fun _ _ _ h => h) (by rfl) ?_ (by assumption) ?_
        rotate_left
        · intro w hSw
          (try dsimp only at hSw)
          go_simp
          (try with_reducible rfl)
        (try simp only [Act.put, List.setIfInBounds_toArray, List.set_cons_zero, List.set_cons_succ])
        refine rg_take (i := 19) (v := ?_) rfl (by kernel_rfl) (by kernel_rfl) (by kernel_rfl) (fun _ _ _ h => h) (by rfl) ?_ (by assumption) ?_
        rotate_left
        · intro w hSw
          (try dsimp only at hSw)
          go_simp
          (try with_reducible rfl)
        (try simp only [Act.put, List.setIfInBounds_toArray, List.set_cons_zero, List.set_cons_succ])
        refine rg_take (i := 20) (v := ?_) rfl (by kernel_rfl) (by kernel_rfl) (by kernel_rfl) (fun _ _ _ h => h) (by rfl) ?_ (by assumption) ?_
        rotate_left
        · intro w hSw
          (try dsimp only at hSw)
          go_simp
          (try with_reducible rfl)
        (try simp only [Act.put, List.setIfInBounds_toArray, List.set_cons_zero, List.set_cons_succ])
        refine rg_take (i := 21) (v := ?_) rfl (by kernel_rfl) (by kernel_rfl) (by kernel_rfl) (fun _ _ _ h => h) (by rfl) ?_ (by assumption) ?_
        rotate_left
        · intro w hSw
          (try dsimp only at hSw)
          go_simp
          (try with_reducible rfl)
        (try simp only [Act.put, List.setIfInBounds_toArray, List.set_cons_zero, List.set_cons_succ])
        refine rg_take (i := 22) (v := ?_) rfl (by kernel_rfl) (by kernel_rfl) (by kernel_rfl) (fun _ _ _ h => h) (by rfl) ?_ (by assumption) ?_
        rotate_left
        · intro w hSw
          (try dsimp only at hSw)
          go_simp
          (try with_reducible rfl)
        (try simp only [Act.put, List.setIfInBounds_toArray, List.set_cons_zero, List.set_cons_succ])
        refine rg_take (i := 23) (v := ?_) rfl (by kernel_rfl) (by kernel_rfl) (by kernel_rfl) (fun _ _ _ h => h) (by rfl) ?_ (by assumption) ?_
        rotate_left
        · intro w hSw
          (try dsimp only at hSw)
          go_simp
          (try with_reducible rfl)
        (try simp only [Act.put, List.setIfInBounds_toArray, List.set_cons_zero, List.set_cons_succ])
        refine rg_take (i := 26) (v := ?_) rfl (by kernel_rfl) (by kernel_rfl) (by kernel_rfl) (fun _ _ _ h => h) (by rfl) ?_ (by assumption) ?_
        rotate_left
        · intro w hSw
          (try dsimp only at hSw)
          go_simp
          (try with_reducible rfl)
        (try simp only [Act.put, List.setIfInBounds_toArray, List.set_cons_zero, List.set_cons_succ])
        refine rg_take (i := 27) (v := ?_) rfl (by kernel_rfl) (by kernel_rfl) (by kernel_rfl) (fun _ _ _ h => h) (by rfl) ?_ (by assumption) ?_
        rotate_left
        · intro w hSw
          (try dsimp only at hSw)
          go_simp
          (try with_reducible rfl)
        (try simp only [Act.put, List.setIfInBounds_toArray, List.set_cons_zero, List.set_cons_succ])
        refine rg_take (i := 30) (v := ?_) rfl (by kernel_rfl) (by kernel_rfl) (by kernel_rfl) (fun _ _ _ h => h) (by rfl) ?_ (by assumption) ?_
        rotate_left
        · intro w hSw
          (try dsimp only at hSw)
          go_simp
          (try with_reducible rfl)
        (try simp only [Act.put, List.setIfInBounds_toArray, List.set_cons_zero, List.set_cons_succ])
        refine rg_take (i := 31) (v := ?_) rfl (by kernel_rfl) (by kernel_rfl) (by kernel_rfl) (fun _ _ _ h => h) (by rfl) ?_ (by assumption) ?_
        rotate_left
        · intro w hSw
          (try dsimp only at hSw)
          go_simp
          (try with_reducible rfl)
        (try simp only [Act.put, List.setIfInBounds_toArray, List.set_cons_zero, List.set_cons_succ])
        refine wpAnyH_ready (rs := [24]) (by kernel_rfl) (by simp) ?_
        refine AllReadyH.cons rfl (fun K hK => ?_) ?_
        · go_simp
          go_at_call 24
          refine (C2.out _ (bel_of SD5.2.2.2)).mono ?_
          rintro e w6 ⟨A6, c6, rfl, ho6, hb6⟩
          rw [← HK2.out]
          have SD6 := KP.out _ _ SD5 hb6
          clear ho6 hb6
          go_wp2_with fail
          refine hK.out _ _ SD6 (fun hHeld => ?_)
          clear hK K
          (try simp only [Act.put, List.setIfInBounds_toArray, List.set_cons_zero, List.set_cons_succ])
          refine rg_take (i := 25) (v := ?_) rfl (by kernel_rfl) (by kernel_rfl) (by kernel_rfl) (fun _ _ _ h => h) (by rfl) ?_ (by assumption) ?_
          rotate_left
          · intro w hSw
            (try dsimp only at hSw)
            go_simp
            (try with_reducible rfl)
          (try simp only [Act.put, List.setIfInBounds_toArray, List.set_cons_zero, List.set_cons_succ])
          refine wpAnyH_ready (rs := [28]) (by kernel_rfl) (by simp) ?_
          refine AllReadyH.cons rfl (fun K hK => ?_) ?_
          · go_simp
            go_at_call 24
            refine (C3.out _ (bel_of SD6.2.2.2)).mono ?_
            rintro e w7 ⟨A7, c7, rfl, ho7, hb7⟩
            rw [← HK3.out]
            have SD7 := KP.out _ _ SD6 hb7
            clear ho7 hb7
            go_wp2_with fail
            refine hK.out _ _ SD7 (fun hHeld => ?_)
            clear hK K
            (try simp only [Act.put, List.setIfInBounds_toArray, List.set_cons_zero, List.set_cons_succ])
            refine rg_take (i := 29) (v := ?_) rfl (by kernel_rfl) (by kernel_rfl) (by kernel_rfl) (fun _ _ _ h => h) (by rfl) ?_ (by assumption) ?_
            rotate_left
            · intro w hSw
              (try dsimp only at hSw)
              go_simp
              (try with_reducible rfl)
            (try simp only [Act.put, List.setIfInBounds_toArray, List.set_cons_zero, List.set_cons_succ])
            refine rg_take (i := 32) (v := ?_) rfl (by kernel_rfl) (by kernel_rfl) (by kernel_rfl) (fun _ _ _ h => h) (by rfl) ?_ (by assumption) ?_
            rotate_left
            · intro w hSw
              (try dsimp only at hSw)
              go_simp
              (try with_reducible rfl)
            (try simp only [Act.put, List.setIfInBounds_toArray, List.set_cons_zero, List.set_cons_succ])
            refine rg_take (i := 33) (v := ?_) rfl (by kernel_rfl) (by kernel_rfl) (by kernel_rfl) (fun _ _ _ h => h) (by rfl) ?_ (by assumption) ?_
            rotate_left
            · intro w hSw
              (try dsimp only at hSw)
              go_simp
              (try with_reducible rfl)
            (try simp only [Act.put, List.setIfInBounds_toArray, List.set_cons_zero, List.set_cons_succ])
            refine rg_take (i := 34) (v := ?_) rfl (by kernel_rfl) (by kernel_rfl) (by kernel_rfl) (fun _ _ _ h => h) (by rfl) ?_ (by assumption) ?_
            rotate_left
            · intro w hSw
              (try dsimp only at hSw)
              go_simp
              (try with_reducible rfl)
            (try simp only [Act.put, List.setIfInBounds_toArray, List.set_cons_zero, List.set_cons_succ])
            refine rg_take (i := 35) (v := ?_) rfl (by kernel_rfl) (by kernel_rfl) (by kernel_rfl) (fun _ _ _ h => h) (by rfl) ?_ (by assumption) ?_
            rotate_left
            · intro w hSw
              (try dsimp only at hSw)
              go_simp
              (try with_reducible rfl)
            (try simp only [Act.put, List.setIfInBounds_toArray, List.set_cons_zero, List.set_cons_succ])
            refine wpAnyH_done (by kernel_rfl) ?_ _
            go_wp2_with fail
            go_meet
            exact ⟨rfl, bel_of SD7.2.2.2⟩
          exact AllReadyH.nil
        exact AllReadyH.nil
      exact AllReadyH.nil
    case rest =>
      obtain ⟨rfl, hB5⟩ := hcut
      have HX := Lib.hid (HX.out.to_below hB5)
      have HN := Lib.hid (HN.out.to_below hB5)
      have HBY := Lib.hid (HBY.out.keep hB5)
      have HP := Lib.hid (own_below HP.out hB5)
      have HW := Lib.hid (HW.out.trans (hB5.mono (by omega)))
      have hs6 := hB5.size
      have SK := Lib.hid (fun (wq : World) (hb : Below wc.heap.size wc wq) => show wq.cell? ⟨b, 1, none⟩ = some (.slice P p.length q) ∧ wq.cell? ⟨b, 3, none⟩ = some (.int .i64 f) from ⟨(hb.cell (p := ⟨b, 1, none⟩) HBY.out.lt).trans HBY.out.2.1, (hb.cell (p := ⟨b, 3, none⟩) HBY.out.lt).trans HBY.out.2.2.2.1⟩)
      clear hB5 S0 KP C1 C2 C3 q1 q3 q4 q5 a1 a2 g0 g1 g2
      go_upto_region 14 with fail
      go_cut [11, 12] from 92 to 112 (fun v11 v12 wq => ∃ Ay cy, v11 = .slice Ay xs.length cy ∧ v12 = .int .i64 0 ∧ NdIn wq wq.heap.size Ay xs.length xs ∧ Below wc.heap.size wc wq)
      case first =>
        refine wp_region_held_drew (S := fun wq => wq.cell? ⟨b, 1, none⟩ = some (.slice P p.length q) ∧ wq.cell? ⟨b, 3, none⟩ = some (.int .i64 f)) (by kernel_rfl) (SK.out _ (show Below wc.heap.size wc wc.drew from (Drawn.refl _).drew.toBelow)) (fun hHeld => ?_)
        obtain ⟨wv0, hw0⟩ : ∃ x, x = wc.drew := ⟨_, rfl⟩
        have HBq := Lib.hid (show Below wc.heap.size wc wv0 by rw [hw0]; exact (Drawn.refl _).drew.toBelow)
        rw [← hw0] at hHeld ⊢
        clear hw0
        refine rg_take (i := 0) (v := ?_) rfl (by kernel_rfl) (by kernel_rfl) (by kernel_rfl) (fun _ _ _ h => h) (by rfl) ?_ (by assumption) ?_
        rotate_left
        · intro w hSw
          (try dsimp only at hSw)
          go_simp
          (try with_reducible rfl)
        (try simp only [Act.put, List.setIfInBounds_toArray, List.set_cons_zero, List.set_cons_succ])
        refine rg_take (i := 2) (v := ?_) rfl (by kernel_rfl) (by kernel_rfl) (by kernel_rfl) (fun _ _ _ h => h) (by rfl) ?_ (by assumption) ?_
        rotate_left
        · intro w hSw
          (try dsimp only at hSw)
          go_simp
          (try with_reducible rfl)
        (try simp only [Act.put, List.setIfInBounds_toArray, List.set_cons_zero, List.set_cons_succ])
        refine rg_take (i := 3) (v := ?_) rfl (by kernel_rfl) (by kernel_rfl) (by kernel_rfl) (fun _ _ _ h => h) (by rfl) ?_ (by assumption) ?_
        rotate_left
        · intro w hSw
          (try dsimp only at hSw)
          go_simp
          (try with_reducible rfl)
        (try simp only [Act.put, List.setIfInBounds_toArray, List.set_cons_zero, List.set_cons_succ])
        refine rg_take (i := 5) (v := ?_) rfl (by kernel_rfl) (by kernel_rfl) (by kernel_rfl) (fun _ _ _ h => h) (by rfl) ?_ (by assumption) ?_
        rotate_left
        · intro w hSw
          (try dsimp only at hSw)
          go_simp
          (try with_reducible rfl)
        (try simp only [Act.put, List.setIfInBounds_toArray, List.set_cons_zero, List.set_cons_succ])
        refine rg_take (i := 6) (v := ?_) rfl (by kernel_rfl) (by kernel_rfl) (by kernel_rfl) (fun _ _ _ h => h) (by rfl) ?_ (by assumption) ?_
        rotate_left
        · intro w hSw
          (try dsimp only at hSw)
          go_simp
          (try with_reducible rfl)
        (try simp only [Act.put, List.setIfInBounds_toArray, List.set_cons_zero, List.set_cons_succ])
        refine wpAnyH_ready (rs := [1, 7]) (by kernel_rfl) (by simp) ?_
        refine AllReadyH.cons rfl (fun K hK => ?_) ?_
        · go_simp
          obtain ⟨g0, hg0⟩ : ∃ x, x = (World.heap wv0).size := ⟨_, rfl⟩
          have o0 : (World.alloc wv0 (.cells #[] 3)).ownsRow wc.heap.size 3 1 (.slice (some ⟨(World.heap wv0).size, 0, none⟩) 0 0) 0 (ints []) := World.ownsRow_lit (base := wc.heap.size) (e := 3) (size := 1) wv0 #[] 0 HBq.out.size (by decide) rfl
          have ba : Below (World.heap wv0).size wv0 (World.alloc wv0 (.cells #[] 3)) := (Below.refl _ _).alloc (Nat.le_refl _) _
          have bq := HBq.out.trans (ba.mono HBq.out.size)
          generalize hwy : World.alloc _ _ = wv1
          rw [hwy] at bq o0
          rw [← hg0] at o0 ⊢
          have HBq := Lib.hid bq
          have O0 := Lib.hid o0
          clear bq hwy hg0 ba o0
          refine hK.out _ _ (SK.out _ HBq.out) (fun hHeld => ?_)
          clear hK K
          (try simp only [Act.put, List.setIfInBounds_toArray, List.set_cons_zero, List.set_cons_succ])
          refine wpAnyH_ready (rs := [4, 7]) (by kernel_rfl) (by simp) ?_
          refine AllReadyH.cons rfl (fun K hK => ?_) ?_
          · refine step_append_own wv1 rfl _ _ 29 rfl wc.heap.size 3 i0 Try.underlying29 Hi.out hz0 hz1 hz2 (.slice (some ⟨g0, 0, none⟩) 0 0) 0 [] rfl O0.out (.slice P p.length q) p.length _ p rfl (own_below HP.out HBq.out) (by omega) HBq.out.size ?_
            intro v4 wv2 o4 hg4
            rw [Nat.zero_add, List.nil_append] at o4
            obtain ⟨A4, c4, rfl⟩ := own_slice o4
            have HBq := Lib.hid (HBq.out.grown hg4 HBq.out.size (fun k e => (O0.out.lt k e).1))
            have O4 := Lib.hid o4
            clear o4 hg4
            refine hK.out _ _ (SK.out _ HBq.out) (fun hHeld => ?_)
            clear hK K
            refine wpAnyH_ready (rs := [7]) (by kernel_rfl) (by simp) ?_
            refine AllReadyH.cons rfl (fun K hK => ?_) ?_
            · go_simp
              obtain ⟨g7, hg7⟩ : ∃ x, x = (World.heap wv2).size := ⟨_, rfl⟩
              have o7 : (World.alloc wv2 (.cells #[.int .i64 f] 3)).ownsRow wc.heap.size 3 1 (.slice (some ⟨(World.heap wv2).size, 0, none⟩) 1 1) 1 (ints [f]) := World.ownsRow_lit (base := wc.heap.size) (e := 3) (size := 1) wv2 #[.int .i64 f] 1 HBq.out.size (by decide) rfl
              have ba : Below (World.heap wv2).size wv2 (World.alloc wv2 (.cells #[.int .i64 f] 3)) := (Below.refl _ _).alloc (Nat.le_refl _) _
              have o4 := own_below O4.out ba
              have bq := HBq.out.trans (ba.mono HBq.out.size)
              generalize hwy : World.alloc _ _ = wv3
              rw [hwy] at bq o7 o4
              rw [← hg7] at o7 ⊢
              have HBq := Lib.hid bq
              have O4 := Lib.hid o4
              have O7 := Lib.hid o7
              clear bq hwy hg7 ba o4 o7
              refine hK.out _ _ (SK.out _ HBq.out) (fun hHeld => ?_)
              clear hK K
              (try simp only [Act.put, List.setIfInBounds_toArray, List.set_cons_zero, List.set_cons_succ])
              refine wpAnyH_ready (rs := [8]) (by kernel_rfl) (by simp) ?_
              refine AllReadyH.cons rfl (fun K hK => ?_) ?_
              · refine step_append_own wv3 rfl _ _ 29 rfl wc.heap.size 3 i0 Try.underlying29 Hi.out hz0 hz1 hz2 (.slice A4 p.length c4) p.length p rfl O4.out (.slice (some ⟨g7, 0, none⟩) 1 1) 1 _ [f] rfl O7.out (by omega) HBq.out.size ?_
                intro v8 wv4 o8 hg8
                obtain ⟨A8, c8, rfl⟩ := own_slice o8
                have HBq := Lib.hid (HBq.out.grown hg8 HBq.out.size (fun k e => (O4.out.lt k e).1))
                have O8 := Lib.hid o8
                clear o8 hg8
                refine hK.out _ _ (SK.out _ HBq.out) (fun hHeld => ?_)
                clear hK K
                refine rg_take (i := 9) (v := ?_) rfl (by kernel_rfl) (by kernel_rfl) (by kernel_rfl) (fun _ _ _ h => h) (by rfl) ?_ (by assumption) ?_
                rotate_left
                · intro w hSw
                  (try dsimp only at hSw)
                  go_simp
                  (try with_reducible rfl)
                (try simp only [Act.put, List.setIfInBounds_toArray])
                refine wpAnyH_ready (rs := [10]) (by kernel_rfl) (by simp) ?_
                refine AllReadyH.cons rfl (fun K hK => ?_) ?_
                · go_simp
                  go_at_call 21
                  refine (implApplyOp_any (some ax) R.1.length c3 R.1 2 0 0 0 (p ++ [f]) A8 (p.length + 1) c8 wv4 (HX.out.to_below HBq.out) (IntIn.of_own O8.out) (by omega) (by omega) HC3.out).mono ?_
                  rw [HA7.out]
                  rintro e wv5 ⟨Ay, cy, rfl, hoy, hb9⟩
                  have HBq := Lib.hid (HBq.out.trans (hb9.mono HBq.out.size))
                  have HOY := Lib.hid (NdIn.of_own hoy)
                  clear hb9 hoy
                  go_wp2_with fail
                  refine hK.out _ _ (SK.out _ HBq.out) (fun hHeld => ?_)
                  clear hK K
                  (try simp only [Act.put, List.setIfInBounds_toArray, List.set_cons_zero, List.set_cons_succ])
                  refine rg_take (i := 11) (v := ?_) rfl (by kernel_rfl) (by kernel_rfl) (by kernel_rfl) (fun _ _ _ h => h) (by rfl) ?_ (by assumption) ?_
                  rotate_left
                  · intro w hSw
                    (try dsimp only at hSw)
                    go_simp
                    (try with_reducible rfl)
                  (try simp only [Act.put, List.setIfInBounds_toArray, List.set_cons_zero, List.set_cons_succ])
                  refine rg_take (i := 12) (v := ?_) rfl (by kernel_rfl) (by kernel_rfl) (by kernel_rfl) (fun _ _ _ h => h) (by rfl) ?_ (by assumption) ?_
                  rotate_left
                  · intro w hSw
                    (try dsimp only at hSw)
                    go_simp
                    (try with_reducible rfl)
                  (try simp only [Act.put, List.setIfInBounds_toArray, List.set_cons_zero, List.set_cons_succ])
                  refine rg_take (i := 13) (v := ?_) rfl (by kernel_rfl) (by kernel_rfl) (by kernel_rfl) (fun _ _ _ h => h) (by rfl) ?_ (by assumption) ?_
                  rotate_left
                  · intro w hSw
                    (try dsimp only at hSw)
                    go_simp
                    (try with_reducible rfl)
                  (try simp only [Act.put, List.setIfInBounds_toArray, List.set_cons_zero, List.set_cons_succ])
                  refine rg_take (i := 14) (v := ?_) rfl (by kernel_rfl) (by kernel_rfl) (by kernel_rfl) (fun _ _ _ h => h) (by rfl) ?_ (by assumption) ?_
                  rotate_left
                  · intro w hSw
                    (try dsimp only at hSw)
                    go_simp
                    (try with_reducible rfl)
                  (try simp only [Act.put, List.setIfInBounds_toArray, List.set_cons_zero, List.set_cons_succ])
                  refine rg_take (i := 15) (v := ?_) rfl (by kernel_rfl) (by kernel_rfl) (by kernel_rfl) (fun _ _ _ h => h) (by rfl) ?_ (by assumption) ?_
                  rotate_left
                  · intro w hSw
                    (try dsimp only at hSw)
                    go_simp
                    (try with_reducible rfl)
                  (try simp only [Act.put, List.setIfInBounds_toArray, List.set_cons_zero, List.set_cons_succ])
                  refine wpAnyH_done (by kernel_rfl) ?_ _
                  go_wp2_with fail
                  go_meet
                  exact ⟨Ay, cy, rfl, rfl, HOY.out, HBq.out⟩
                exact AllReadyH.nil
              exact AllReadyH.nil
            exact AllReadyH.nil
          refine AllReadyH.cons rfl (fun K hK => ?_) ?_
          · go_simp
            obtain ⟨g7, hg7⟩ : ∃ x, x = (World.heap wv1).size := ⟨_, rfl⟩
            have o7 : (World.alloc wv1 (.cells #[.int .i64 f] 3)).ownsRow wc.heap.size 3 1 (.slice (some ⟨(World.heap wv1).size, 0, none⟩) 1 1) 1 (ints [f]) := World.ownsRow_lit (base := wc.heap.size) (e := 3) (size := 1) wv1 #[.int .i64 f] 1 HBq.out.size (by decide) rfl
            have ba : Below (World.heap wv1).size wv1 (World.alloc wv1 (.cells #[.int .i64 f] 3)) := (Below.refl _ _).alloc (Nat.le_refl _) _
            have N07 : g0 ≠ g7 := by have := (O0.out.lt g0 rfl).2; omega
            have o0 := own_below O0.out ba
            have bq := HBq.out.trans (ba.mono HBq.out.size)
            generalize hwy : World.alloc _ _ = wv2
            rw [hwy] at bq o7 o0
            rw [← hg7] at o7 ⊢
            have HBq := Lib.hid bq
            have O0 := Lib.hid o0
            have O7 := Lib.hid o7
            clear bq hwy hg7 ba o0 o7
            refine hK.out _ _ (SK.out _ HBq.out) (fun hHeld => ?_)
            clear hK K
            (try simp only [Act.put, List.setIfInBounds_toArray, List.set_cons_zero, List.set_cons_succ])
            refine wpAnyH_ready (rs := [4]) (by kernel_rfl) (by simp) ?_
            refine AllReadyH.cons rfl (fun K hK => ?_) ?_
            · refine step_append_own wv2 rfl _ _ 29 rfl wc.heap.size 3 i0 Try.underlying29 Hi.out hz0 hz1 hz2 (.slice (some ⟨g0, 0, none⟩) 0 0) 0 [] rfl O0.out (.slice P p.length q) p.length _ p rfl (own_below HP.out HBq.out) (by omega) HBq.out.size ?_
              intro v4 wv3 o4 hg4
              rw [Nat.zero_add, List.nil_append] at o4
              obtain ⟨A4, c4, rfl⟩ := own_slice o4
              have O7 := Lib.hid (O7.out.kept hg4 (.inr (fun e => N07 (Option.some.inj e).symm)))
              have HBq := Lib.hid (HBq.out.grown hg4 HBq.out.size (fun k e => (O0.out.lt k e).1))
              have O4 := Lib.hid o4
              clear o4 hg4
              refine hK.out _ _ (SK.out _ HBq.out) (fun hHeld => ?_)
              clear hK K
              refine wpAnyH_ready (rs := [8]) (by kernel_rfl) (by simp) ?_
              refine AllReadyH.cons rfl (fun K hK => ?_) ?_
              · refine step_append_own wv3 rfl _ _ 29 rfl wc.heap.size 3 i0 Try.underlying29 Hi.out hz0 hz1 hz2 (.slice A4 p.length c4) p.length p rfl O4.out (.slice (some ⟨g7, 0, none⟩) 1 1) 1 _ [f] rfl O7.out (by omega) HBq.out.size ?_
                intro v8 wv4 o8 hg8
                obtain ⟨A8, c8, rfl⟩ := own_slice o8
                have HBq := Lib.hid (HBq.out.grown hg8 HBq.out.size (fun k e => (O4.out.lt k e).1))
                have O8 := Lib.hid o8
                clear o8 hg8
                refine hK.out _ _ (SK.out _ HBq.out) (fun hHeld => ?_)
                clear hK K
                refine rg_take (i := 9) (v := ?_) rfl (by kernel_rfl) (by kernel_rfl) (by kernel_rfl) (fun _ _ _ h => h) (by rfl) ?_ (by assumption) ?_
                rotate_left
                · intro w hSw
                  (try dsimp only at hSw)
                  go_simp
                  (try with_reducible rfl)
                (try simp only [Act.put, List.setIfInBounds_toArray])
                refine wpAnyH_ready (rs := [10]) (by kernel_rfl) (by simp) ?_
                refine AllReadyH.cons rfl (fun K hK => ?_) ?_
                · go_simp
                  go_at_call 21
                  refine (implApplyOp_any (some ax) R.1.length c3 R.1 2 0 0 0 (p ++ [f]) A8 (p.length + 1) c8 wv4 (HX.out.to_below HBq.out) (IntIn.of_own O8.out) (by omega) (by omega) HC3.out).mono ?_
                  rw [HA7.out]
                  rintro e wv5 ⟨Ay, cy, rfl, hoy, hb9⟩
                  have HBq := Lib.hid (HBq.out.trans (hb9.mono HBq.out.size))
                  have HOY := Lib.hid (NdIn.of_own hoy)
                  clear hb9 hoy
                  go_wp2_with fail
                  refine hK.out _ _ (SK.out _ HBq.out) (fun hHeld => ?_)
                  clear hK K
                  (try simp only [Act.put, List.setIfInBounds_toArray, List.set_cons_zero, List.set_cons_succ])
                  refine rg_take (i := 11) (v := ?_) rfl (by kernel_rfl) (by kernel_rfl) (by kernel_rfl) (fun _ _ _ h => h) (by rfl) ?_ (by assumption) ?_
                  rotate_left
                  · intro w hSw
                    (try dsimp only at hSw)
                    go_simp
                    (try with_reducible rfl)
                  (try simp only [Act.put, List.setIfInBounds_toArray, List.set_cons_zero, List.set_cons_succ])
                  refine rg_take (i := 12) (v := ?_) rfl (by kernel_rfl) (by kernel_rfl) (by kernel_rfl) (fun _ _ _ h => h) (by rfl) ?_ (by assumption) ?_
                  rotate_left
                  · intro w hSw
                    (try dsimp only at hSw)
                    go_simp
                    (try with_reducible rfl)
                  (try simp only [Act.put, List.setIfInBounds_toArray, List.set_cons_zero, List.set_cons_succ])
                  refine rg_take (i := 13) (v := ?_) rfl (by kernel_rfl) (by kernel_rfl) (by kernel_rfl) (fun _ _ _ h => h) (by rfl) ?_ (by assumption) ?_
                  rotate_left
                  · intro w hSw
                    (try dsimp only at hSw)
                    go_simp
                    (try with_reducible rfl)
                  (try simp only [Act.put, List.setIfInBounds_toArray, List.set_cons_zero, List.set_cons_succ])
                  refine rg_take (i := 14) (v := ?_) rfl (by kernel_rfl) (by kernel_rfl) (by kernel_rfl) (fun _ _ _ h => h) (by rfl) ?_ (by assumption) ?_
                  rotate_left
                  · intro w hSw
                    (try dsimp only at hSw)
                    go_simp
                    (try with_reducible rfl)
                  (try simp only [Act.put, List.setIfInBounds_toArray, List.set_cons_zero, List.set_cons_succ])
                  refine rg_take (i := 15) (v := ?_) rfl (by kernel_rfl) (by kernel_rfl) (by kernel_rfl) (fun _ _ _ h => h) (by rfl) ?_ (by assumption) ?_
                  rotate_left
                  · intro w hSw
                    (try dsimp only at hSw)
                    go_simp
                    (try with_reducible rfl)
                  (try simp only [Act.put, List.setIfInBounds_toArray, List.set_cons_zero, List.set_cons_succ])
                  refine wpAnyH_done (by kernel_rfl) ?_ _
                  go_wp2_with fail
                  go_meet
                  exact ⟨Ay, cy, rfl, rfl, HOY.out, HBq.out⟩
                exact AllReadyH.nil
              exact AllReadyH.nil
            exact AllReadyH.nil
          exact AllReadyH.nil
        refine AllReadyH.cons rfl (fun K hK => ?_) ?_
        · go_simp
          obtain ⟨g7, hg7⟩ : ∃ x, x = (World.heap wv0).size := ⟨_, rfl⟩
          have o7 : (World.alloc wv0 (.cells #[.int .i64 f] 3)).ownsRow wc.heap.size 3 1 (.slice (some ⟨(World.heap wv0).size, 0, none⟩) 1 1) 1 (ints [f]) := World.ownsRow_lit (base := wc.heap.size) (e := 3) (size := 1) wv0 #[.int .i64 f] 1 HBq.out.size (by decide) rfl
          have ba : Below (World.heap wv0).size wv0 (World.alloc wv0 (.cells #[.int .i64 f] 3)) := (Below.refl _ _).alloc (Nat.le_refl _) _
          have bq := HBq.out.trans (ba.mono HBq.out.size)
          generalize hwy : World.alloc _ _ = wv1
          rw [hwy] at bq o7
          rw [← hg7] at o7 ⊢
          have HBq := Lib.hid bq
          have O7 := Lib.hid o7
          clear bq hwy hg7 ba o7
          refine hK.out _ _ (SK.out _ HBq.out) (fun hHeld => ?_)
          clear hK K
          (try simp only [Act.put, List.setIfInBounds_toArray, List.set_cons_zero, List.set_cons_succ])
          refine wpAnyH_ready (rs := [1]) (by kernel_rfl) (by simp) ?_
          refine AllReadyH.cons rfl (fun K hK => ?_) ?_
          · go_simp
            obtain ⟨g0, hg0⟩ : ∃ x, x = (World.heap wv1).size := ⟨_, rfl⟩
            have o0 : (World.alloc wv1 (.cells #[] 3)).ownsRow wc.heap.size 3 1 (.slice (some ⟨(World.heap wv1).size, 0, none⟩) 0 0) 0 (ints []) := World.ownsRow_lit (base := wc.heap.size) (e := 3) (size := 1) wv1 #[] 0 HBq.out.size (by decide) rfl
            have ba : Below (World.heap wv1).size wv1 (World.alloc wv1 (.cells #[] 3)) := (Below.refl _ _).alloc (Nat.le_refl _) _
            have N70 : g7 ≠ g0 := by have := (O7.out.lt g7 rfl).2; omega
            have o7 := own_below O7.out ba
            have bq := HBq.out.trans (ba.mono HBq.out.size)
            generalize hwy : World.alloc _ _ = wv2
            rw [hwy] at bq o0 o7
            rw [← hg0] at o0 ⊢
            have HBq := Lib.hid bq
            have O7 := Lib.hid o7
            have O0 := Lib.hid o0
            clear bq hwy hg0 ba o7 o0
            refine hK.out _ _ (SK.out _ HBq.out) (fun hHeld => ?_)
            clear hK K
            (try simp only [Act.put, List.setIfInBounds_toArray, List.set_cons_zero, List.set_cons_succ])
            refine wpAnyH_ready (rs := [4]) (by kernel_rfl) (by simp) ?_
            refine AllReadyH.cons rfl (fun K hK => ?_) ?_
            · refine step_append_own wv2 rfl _ _ 29 rfl wc.heap.size 3 i0 Try.underlying29 Hi.out hz0 hz1 hz2 (.slice (some ⟨g0, 0, none⟩) 0 0) 0 [] rfl O0.out (.slice P p.length q) p.length _ p rfl (own_below HP.out HBq.out) (by omega) HBq.out.size ?_
              intro v4 wv3 o4 hg4
              rw [Nat.zero_add, List.nil_append] at o4
              obtain ⟨A4, c4, rfl⟩ := own_slice o4
              have O7 := Lib.hid (O7.out.kept hg4 (.inr (fun e => N70.symm (Option.some.inj e).symm)))
              have HBq := Lib.hid (HBq.out.grown hg4 HBq.out.size (fun k e => (O0.out.lt k e).1))
              have O4 := Lib.hid o4
              clear o4 hg4
              refine hK.out _ _ (SK.out _ HBq.out) (fun hHeld => ?_)
              clear hK K
              refine wpAnyH_ready (rs := [8]) (by kernel_rfl) (by simp) ?_
              refine AllReadyH.cons rfl (fun K hK => ?_) ?_
              · refine step_append_own wv3 rfl _ _ 29 rfl wc.heap.size 3 i0 Try.underlying29 Hi.out hz0 hz1 hz2 (.slice A4 p.length c4) p.length p rfl O4.out (.slice (some ⟨g7, 0, none⟩) 1 1) 1 _ [f] rfl O7.out (by omega) HBq.out.size ?_
                intro v8 wv4 o8 hg8
                obtain ⟨A8, c8, rfl⟩ := own_slice o8
                have HBq := Lib.hid (HBq.out.grown hg8 HBq.out.size (fun k e => (O4.out.lt k e).1))
                have O8 := Lib.hid o8
                clear o8 hg8
                refine hK.out _ _ (SK.out _ HBq.out) (fun hHeld => ?_)
                clear hK K
                refine rg_take (i := 9) (v := ?_) rfl (by kernel_rfl) (by kernel_rfl) (by kernel_rfl) (fun _ _ _ h => h) (by rfl) ?_ (by assumption) ?_
                rotate_left
                · intro w hSw
                  (try dsimp only at hSw)
                  go_simp
                  (try with_reducible rfl)
                (try simp only [Act.put, List.setIfInBounds_toArray])
                refine wpAnyH_ready (rs := [10]) (by kernel_rfl) (by simp) ?_
                refine AllReadyH.cons rfl (fun K hK => ?_) ?_
                · go_simp
                  go_at_call 21
                  refine (implApplyOp_any (some ax) R.1.length c3 R.1 2 0 0 0 (p ++ [f]) A8 (p.length + 1) c8 wv4 (HX.out.to_below HBq.out) (IntIn.of_own O8.out) (by omega) (by omega) HC3.out).mono ?_
                  rw [HA7.out]
                  rintro e wv5 ⟨Ay, cy, rfl, hoy, hb9⟩
                  have HBq := Lib.hid (HBq.out.trans (hb9.mono HBq.out.size))
                  have HOY := Lib.hid (NdIn.of_own hoy)
                  clear hb9 hoy
                  go_wp2_with fail
                  refine hK.out _ _ (SK.out _ HBq.out) (fun hHeld => ?_)
                  clear hK K
                  (try simp only [Act.put, List.setIfInBounds_toArray, List.set_cons_zero, List.set_cons_succ])
                  refine rg_take (i := 11) (v := ?_) rfl (by kernel_rfl) (by kernel_rfl) (by kernel_rfl) (fun _ _ _ h => h) (by rfl) ?_ (by assumption) ?_
                  rotate_left
                  · intro w hSw
                    (try dsimp only at hSw)
                    go_simp
                    (try with_reducible rfl)
                  (try simp only [Act.put, List.setIfInBounds_toArray, List.set_cons_zero, List.set_cons_succ])
                  refine rg_take (i := 12) (v := ?_) rfl (by kernel_rfl) (by kernel_rfl) (by kernel_rfl) (fun _ _ _ h => h) (by rfl) ?_ (by assumption) ?_
                  rotate_left
                  · intro w hSw
                    (try dsimp only at hSw)
                    go_simp
                    (try with_reducible rfl)
                  (try simp only [Act.put, List.setIfInBounds_toArray, List.set_cons_zero, List.set_cons_succ])
                  refine rg_take (i := 13) (v := ?_) rfl (by kernel_rfl) (by kernel_rfl) (by kernel_rfl) (fun _ _ _ h => h) (by rfl) ?_ (by assumption) ?_
                  rotate_left
                  · intro w hSw
                    (try dsimp only at hSw)
                    go_simp
                    (try with_reducible rfl)
                  (try simp only [Act.put, List.setIfInBounds_toArray, List.set_cons_zero, List.set_cons_succ])
                  refine rg_take (i := 14) (v := ?_) rfl (by kernel_rfl) (by kernel_rfl) (by kernel_rfl) (fun _ _ _ h => h) (by rfl) ?_ (by assumption) ?_
                  rotate_left
                  · intro w hSw
                    (try dsimp only at hSw)
                    go_simp
                    (try with_reducible rfl)
                  (try simp only [Act.put, List.setIfInBounds_toArray, List.set_cons_zero, List.set_cons_succ])
                  refine rg_take (i := 15) (v := ?_) rfl (by kernel_rfl) (by kernel_rfl) (by kernel_rfl) (fun _ _ _ h => h) (by rfl) ?_ (by assumption) ?_
                  rotate_left
                  · intro w hSw
                    (try dsimp only at hSw)
                    go_simp
                    (try with_reducible rfl)
                  (try simp only [Act.put, List.setIfInBounds_toArray, List.set_cons_zero, List.set_cons_succ])
                  refine wpAnyH_done (by kernel_rfl) ?_ _
                  go_wp2_with fail
                  go_meet
                  exact ⟨Ay, cy, rfl, rfl, HOY.out, HBq.out⟩
                exact AllReadyH.nil
              exact AllReadyH.nil
            exact AllReadyH.nil
          exact AllReadyH.nil
        exact AllReadyH.nil
      case rest =>
        obtain ⟨Ay, cy, rfl, rfl, hNy, hB6⟩ := hcut
        have HNY := Lib.hid hNy
        have HN := Lib.hid (HN.out.to_below hB6)
        have HW := Lib.hid (HW.out.trans (hB6.mono (by omega)))
        clear hNy hB6
        go_wp2_with fail
        refine (specSameTree_any Ay A xs.length cy n cp xs xs _ HNY.out (by have := HXL.out; omega) HN.out (by omega)).mono ?_
        rintro e w9 ⟨rfl, hd⟩
        have q6 : decide (xs = xs) = true := decide_eq_true rfl
        rw [q6]
        have HW := Lib.hid (HW.out.trans ((hd.toBelow (B := World.heap _ |>.size)).mono HW.out.size))
        clear hd q6
        go_wp2
        go_ret
        exact ⟨rfl, HW.out⟩

end Go.Proofs.Ytgkkeejhfofcaaa
