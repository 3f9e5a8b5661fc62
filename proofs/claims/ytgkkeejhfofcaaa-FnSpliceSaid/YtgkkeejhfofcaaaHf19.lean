/- Texts of one claim laid into one file, in build order: DrOp13. -/
import Derived.Test.YtgkkeejhfofcaaaHf18
import Derived.Test.YtgkkeejhfofcaaaHf3
import Derived.Test.YtgkkeejhfofcaaaHf4
import Derived.Test.YtgkkeejhfofcaaaHf5
import Derived.Test.YtgkkeejhfofcaaaHf8
import Derived.Deep.CutBlock
import Derived.Deep.CutRange
/- Contracts (DrOp13). -/
namespace Go.Proofs.Ytgkkeejhfofcaaa
open Go.RowKit
set_option linter.unusedVariables false

/-- what l13Op answers -/
def OpD (w : World) (B : Nat) (k : Code) (e : Ending) (w' : World) : Prop :=
  ∃ (kd a f z : Int) (p : List Int) (P : Option Addr) (m q : Nat), e = .returned (.agg #[.int .i64 kd, .slice P m q, .int .i64 a, .int .i64 f, .int .i64 z]) ∧ m ≤ 32 ∧ w'.ownsRow w.heap.size 3 1 (.slice P m q) m (ints p) ∧ CurX w' B k ∧ w.grownBy w' (some B)
set_option maxHeartbeats 6400000 in
set_option maxRecDepth 100000 in
theorem l13Op_ex (w : World) (B : Nat) (k : Code) (A : Option Addr) (n cp : Nat) (xs : Tr) (c : CurX w B k) (h : NdLo w (B + 1) w.heap.size A n xs) (hn : n ≤ 31) :
    Calls Try.prog 71 #[.pointer (some ⟨B, 0, none⟩), .slice A n cp] w (OpD w B k) := by
  have hBB := c.lt
  have HN0 := Lib.hid h
  have hn2 : n ≤ 1048576 := by omega
  have HPL := Lib.hid (fun i => Tr.path_len xs i)
  have HXL := Lib.hid h.1.1
  obtain ⟨i0, hi, hz0, hz1, hz2⟩ := info_parts info_intP
  have Hi := Lib.hid hi
  obtain ⟨wr, hwr⟩ : ∃ x, x = w.alloc (.cells #[.int .i64 0, .slice none 0 0, .int .i64 0, .int .i64 0, .int .i64 0] 39) := ⟨_, rfl⟩
  obtain ⟨r, hr⟩ : ∃ r, r = w.heap.size := ⟨_, rfl⟩
  have HU := Lib.hid (show Bx5 wr r (.int .i64 0) (.slice none 0 0) (.int .i64 0) (.int .i64 0) (.int .i64 0) by rw [hwr, hr]; exact Bx5.made _ _ _ _ _ _ _)
  have HUF := Lib.hid (show ∀ off, wr.frozen? ⟨r, off, none⟩ = false by rw [hwr, hr]; exact Bx5.free _ _ _ _ _ _ _)
  have HC := Lib.hid (show CurX wr B k by rw [hwr]; exact c.alloc _)
  have HG := Lib.hid (show w.grownBy wr (some B) by rw [hwr]; exact Kit.grown_alloc w _ (some B))
  have HZ := Lib.hid (show wr.heap.size = r + 1 ∧ r = w.heap.size from ⟨by rw [hwr, hr]; simp, hr⟩)
  have HW := Lib.hid hwr
  have HR := Lib.hid hr
  clear c h hwr hr hi
  rcases (show (1 : Int) < (n : Int) ∨ (n : Int) ≤ 1 by omega) with h1 | h1
  all_goals
    go_enter Try.func71, Try.ntmps71
    go_wp2_with fail
    rw [← HW.out, ← HR.out]
    refine (l1Below_ex wr B k _ HC.out).mono ?_
    rintro e w1 ⟨v1, rfl, hv1, c1, g1⟩
    have a5 : IntKind.i64.wrap (1 + (v1 : Int)) = 1 + (v1 : Int) := Kit.w64 (by omega) (by omega)
    clear hv1
    have HU := Lib.hid (HU.out.kept g1 (fun e => by injection e with e; have := HZ.out; omega))
    have HUF := Lib.hid (free_kept13 g1 (by have := HZ.out; omega) (fun b e => by injection e with e; have := HZ.out; omega) HUF.out)
    have HC := Lib.hid c1
    have HG := Lib.hid (Kit.grown_trans HG.out g1)
    have hs1 := g1.size
    clear c1 g1
    go_wp2_with fail
    refine (l1Below_ex w1 B k _ HC.out).mono ?_
    rintro e w2 ⟨v2, rfl, -, c1, g1⟩
    have HU := Lib.hid (HU.out.kept g1 (fun e => by injection e with e; have := HZ.out; omega))
    have HUF := Lib.hid (free_kept13 g1 (by have := HZ.out; omega) (fun b e => by injection e with e; have := HZ.out; omega) HUF.out)
    have HC := Lib.hid c1
    have HG := Lib.hid (Kit.grown_trans HG.out g1)
    have hs2 := g1.size
    clear c1 g1
    have HN2 := Lib.hid (HN0.out.grown HG.out (Nat.le_refl _) (fun b e => by injection e with e; omega))
    go_wp2_with fail
    refine (specPathOf_any _ _ _ xs _ _ (HN2.out.here HG.out.size) hn2).mono ?_
    rintro e w3 ⟨P, q, rfl, ho, hb⟩
    obtain ⟨wt, hwt⟩ : ∃ x, x = w3.alloc (.cells #[.int .i64 (1 + (v1 : Int)), .slice P (Tr.path xs (v2 : Int)).length q, .int .i64 0, .int .i64 0, .int .i64 0] 39) := ⟨_, rfl⟩
    obtain ⟨t, ht⟩ : ∃ t, t = w3.heap.size := ⟨_, rfl⟩
    have hz := HZ.out
    have hs3 := hb.size
    have hbt : Below w2.heap.size w2 wt := by rw [hwt]; exact Below.alloc hb hs3 _
    have hgt : w2.grownBy wt none := ⟨hbt.os, hbt.tape, hbt.output, hbt.size, fun b hl _ => hbt.block b hl⟩
    have HO := Lib.hid (show OpG w B r t k A n xs 31 wt from ⟨_, _, _, _, Tr.path xs (v2 : Int), P, _, q, by rw [hwt, ht]; exact Bx5.made _ _ _ _ _ _ _, by rw [hwt, ht]; exact Bx5.free _ _ _ _ _ _ _, HU.out.below hbt (by omega), free_below hbt (by omega) HUF.out, by rw [hwt]; exact (own_base ho (by omega)).alloc _, fun e => by have := (ho.lt t e).2; omega, by have := HPL.out (v2 : Int); have := HXL.out; omega, HN2.out.below hbt HG.out.size, HC.out.kept hgt (fun g e => by cases e), Kit.grown_trans HG.out ⟨hgt.os, hgt.tape, hgt.output, hgt.size, fun b hl _ => hbt.block b hl⟩, hBB, by omega, by omega⟩)
    have HWT := Lib.hid hwt
    have HT := Lib.hid ht
    clear hwt ht ho hb hbt hgt hz
    go_upto_if 20 with fail
    rw [← HWT.out, ← HT.out]
    clear a5
    go_cut [5] from 6 to 81 (fun v5 wq => v5 = .pointer (some ⟨t, 0, none⟩) ∧ OpG w B r t k A n xs 31 wq)
    case first =>
      go_wp2_with (go_loud (go_at_call 113; refine (l2Label_ex _ B k (OpG.cur HO.out)).mono ?_; rintro e w5 ⟨v5, rfl, c5, g5⟩; have HO5 := Lib.hid (HO.out.drawn c5 g5); obtain ⟨kd5, a5, f5, z5, p5, P5, m5, q5, ⟨y0, y1, y2, y3, y4⟩, yf5, ⟨u0, u1, u2, u3, u4⟩, uf5, ho5, hne5, hm5, hN5, hC5, hG5, -⟩ := HO5.out; have yf50 := yf5 0; have yf51 := yf5 1; have yf52 := yf5 2; have yf53 := yf5 3; have yf54 := yf5 4))
      all_goals go_meet
      all_goals (first | exact ⟨rfl, HO5.out.put2 _⟩ | exact ⟨rfl, HO.out⟩)
    case rest =>
      obtain ⟨rfl, hO⟩ := hcut
      have HO := Lib.hid hO
      clear hO
      obtain ⟨kd5, a5, f5, z5, p5, P5, m5, q5, ⟨y0, y1, y2, y3, y4⟩, yf5, ⟨u0, u1, u2, u3, u4⟩, uf5, ho5, hne5, hm5, hN5, hC5, hG5, -⟩ := HO.out
      have yf50 := yf5 0
      have yf51 := yf5 1
      have yf52 := yf5 2
      have yf53 := yf5 3
      have yf54 := yf5 4
      go_upto_if 26 with fail
      go_cut [5] from 6 to 81 (fun v5 wq => v5 = .pointer (some ⟨t, 0, none⟩) ∧ OpG w B r t k A n xs 31 wq)
      case first =>
        go_wp2_with (first | (go_loud (go_at_call 23; refine (specNodeAt_any _ _ _ _ _ _ xs p5 _ (OpG.nodes HO.out) (IntIn.of_own ho5) hn2 (by omega)).mono ?_; rintro e w6 ⟨rfl, hb6⟩; have HO6 := Lib.hid (HO.out.below hb6))) | (go_loud (go_at_call 24; refine (specKidsOf_any _ _ _ xs _ _ (OpG.nodes HO6.out) hn2).mono ?_; rintro e w7 ⟨A7, c7, rfl, ho7, hb7⟩; have HO7 := Lib.hid (HO6.out.below hb7))) | (go_at_call 110; refine (l1Below_ex _ B k _ (OpG.cur (HO8.out.put3 _))).mono ?_; rintro e w9 ⟨v9, rfl, -, c9, g9⟩; have HO9 := Lib.hid ((HO8.out.put3 _).drawn c9 g9); obtain ⟨kd5, a5, f5, z5, p5, P5, m5, q5, ⟨y0, y1, y2, y3, y4⟩, yf5, ⟨u0, u1, u2, u3, u4⟩, uf5, ho5, hne5, hm5, hN5, hC5, hG5, -⟩ := HO9.out; have yf50 := yf5 0; have yf51 := yf5 1; have yf52 := yf5 2; have yf53 := yf5 3; have yf54 := yf5 4) | (go_loud (go_at_call 110; refine (l1Below_ex _ B k _ (OpG.cur HO7.out)).mono ?_; rintro e w8 ⟨v8, rfl, -, c8, g8⟩; have HO8 := Lib.hid (HO7.out.drawn c8 g8); obtain ⟨kd5, a5, f5, z5, p5, P5, m5, q5, ⟨y0, y1, y2, y3, y4⟩, yf5, ⟨u0, u1, u2, u3, u4⟩, uf5, ho5, hne5, hm5, hN5, hC5, hG5, -⟩ := HO8.out; have yf50 := yf5 0; have yf51 := yf5 1; have yf52 := yf5 2; have yf53 := yf5 3; have yf54 := yf5 4)))
        all_goals go_meet
        all_goals (first | exact ⟨rfl, HO9.out.put4 _⟩ | exact ⟨rfl, HO.out⟩)
      case rest =>
        obtain ⟨rfl, hO⟩ := hcut
        have HO := Lib.hid hO
        clear hO
        go_wp2_with fail
        refine (l1Below_ex _ B k _ (OpG.cur HO.out)).mono ?_
        rintro e w5 ⟨v5, rfl, -, c5, g5⟩
        have HO5 := Lib.hid (HO.out.drawn c5 g5)
        obtain ⟨kd5, a5, f5, z5, p5, P5, m5, q5, ⟨y0, y1, y2, y3, y4⟩, yf5, ⟨u0, u1, u2, u3, u4⟩, uf5, ho5, hne5, hm5, hN5, hC5, hG5, -⟩ := HO5.out
        have yf50 := yf5 0
        have yf51 := yf5 1
        have yf52 := yf5 2
        have yf53 := yf5 3
        have yf54 := yf5 4
        go_upto_block 0 with fail
        go_cut [5] from 6 to 81 (fun v5 wq => v5 = .pointer (some ⟨t, 0, none⟩) ∧ OpG w B r t k A n xs 32 wq)
        case first =>
          go_wp2_with (first | (go_loud (go_at_call 110; refine (l1Below_ex _ B k _ (OpG.cur HO5.out)).mono ?_; rintro e w6 ⟨v6, rfl, hv6, c6, g6⟩; have HO6 := Lib.hid (HO5.out.drawn c6 g6); obtain ⟨kd5, a5, f5, z5, p5, P5, m5, q5, ⟨y0, y1, y2, y3, y4⟩, yf5, ⟨u0, u1, u2, u3, u4⟩, uf5, ho5, hne5, hm5, hN5, hC5, hG5, -⟩ := HO6.out; have yf50 := yf5 0; have yf51 := yf5 1; have yf52 := yf5 2; have yf53 := yf5 3; have yf54 := yf5 4)) | (go_loud (go_at_call 111; refine (l2Any_ex _ B k (OpG.cur HO5.out)).mono ?_; rintro e w6 ⟨v7, rfl, c6, g6⟩; have HO7 := Lib.hid (HO5.out.drawn c6 g6); obtain ⟨kd5, a5, f5, z5, p5, P5, m5, q5, ⟨y0, y1, y2, y3, y4⟩, yf5, ⟨u0, u1, u2, u3, u4⟩, uf5, ho5, hne5, hm5, hN5, hC5, hG5, -⟩ := HO7.out; have yf50 := yf5 0; have yf51 := yf5 1; have yf52 := yf5 2; have yf53 := yf5 3; have yf54 := yf5 4)) | (go_loud (go_at_call 112; have HOA := Lib.hid (HO5.out.below ((Below.refl w5.heap.size w5).alloc (Nat.le_refl _) (.cells #[.int .i64 (-1), .int .i64 1, .int .i64 9, .int .i64 9223372036854775807] 3))); refine (l1PickInt_ex (World.alloc w5 (.cells #[.int .i64 (-1), .int .i64 1, .int .i64 9, .int .i64 9223372036854775807] 3)) B w5.heap.size k (OpG.cur HOA.out) [(-1 : Int), 1, 9, 9223372036854775807] 4 rfl (by decide) (by decide) (OpG.cur HO5.out).lt (by simp) (fun j hj => (by (rcases (show j = 0 ∨ j = 1 ∨ j = 2 ∨ j = 3 by (simp at hj; omega)) with rfl | rfl | rfl | rfl) <;> simp))).mono ?_; rintro e w6 ⟨v8, rfl, c6, g6⟩; have HO8 := Lib.hid (HOA.out.drawn c6 g6); obtain ⟨kd5, a5, f5, z5, p5, P5, m5, q5, ⟨y0, y1, y2, y3, y4⟩, yf5, ⟨u0, u1, u2, u3, u4⟩, uf5, ho5, hne5, hm5, hN5, hC5, hG5, -⟩ := HO8.out; have yf50 := yf5 0; have yf51 := yf5 1; have yf52 := yf5 2; have yf53 := yf5 3; have yf54 := yf5 4)))
          all_goals (try go_meet)
          rotate_left
          any_goals
            obtain ⟨p6, P6, m6, q6, HR6, hown6, hne6, hm6⟩ := HO5.out.parts
            have S0 := Lib.hid (opr_S (OpR.drew HR6))
            have hlt6 := HR6.lts
            have HW5 := Lib.hid (show w5.drew.ownsRow (r + 1) 3 1 (.slice P6 m6 q6) m6 (ints p6) from hown6)
            clear HR6 hown6
            go_wp2_with fail
            have y6 := S0.out.1
            refine wp_region_held_drew (S := fun _ => True) (by kernel_rfl) trivial (fun hHeld => ?_)
            refine rg_take (i := 0) (v := ?_) rfl (by kernel_rfl) (by kernel_rfl) (by kernel_rfl) (fun _ _ _ h => h) (by rfl) ?_ (by assumption) ?_
            rotate_left
            · intro w hSw
              (try dsimp only at hSw)
              go_simp
              (try with_reducible rfl)
            (try simp only [Act.put, List.setIfInBounds_toArray, List.set_cons_zero, List.set_cons_succ])
            refine rg_take (i := 2) (v := ?_) rfl (by kernel_rfl) (by kernel_rfl) (by kernel_rfl) (fun _ _ _ h => h) (by rfl) ?_ (by assumption) ?_
            rotate_left
            · intro w hSw
              (try dsimp only at hSw)
              go_simp
              (try with_reducible rfl)
            (try simp only [Act.put, List.setIfInBounds_toArray, List.set_cons_zero, List.set_cons_succ])
            refine wpAnyH_ready (rs := [1, 3]) (by kernel_rfl) (by simp) ?_
            refine AllReadyH.cons rfl (fun K hK => ?_) ?_
            · go_simp
              refine hK.out _ _ trivial (fun hHeld => ?_)
              clear hK K
              (try simp only [Act.put, List.setIfInBounds_toArray, List.set_cons_zero, List.set_cons_succ])
              refine wpAnyH_ready (rs := [3]) (by kernel_rfl) (by simp) ?_
              refine AllReadyH.cons rfl (fun K hK => ?_) ?_
              · go_simp
                go_at_call 110
                refine (l1Below_ex w5.drew B k _ (OpR.cur S0.out.2)).mono ?_
                rintro e w6 ⟨v6, rfl, hv6, c6, g6⟩
                have SC := opr_S (OpR.drawn S0.out.2 c6 g6)
                have y7 := SC.1
                have HSC := Lib.hid SC
                have HW6 := Lib.hid (own_apart HW5.out g6 (.inr fun e => by have := (HW5.out.lt B e).1; omega))
                have a6 : IntKind.i64.wrap ((v6 : Int) - 1) = (v6 : Int) - 1 := Kit.w64 (by omega) (by omega)
                have y9 : (w6.alloc (.cells #[.int .i64 ((v6 : Int) - 1)] 3)).cell? ⟨t, 1, none⟩ = some (.slice P6 m6 q6) := (opr_S (OpR.alloc SC.2 _)).1
                clear hv6 SC c6 g6
                go_wp2_with fail
                refine hK.out _ _ trivial (fun hHeld => ?_)
                clear hK K
                (try simp only [Act.put, List.setIfInBounds_toArray, List.set_cons_zero, List.set_cons_succ])
                refine rg_take (i := 4) (v := ?_) rfl (by kernel_rfl) (by kernel_rfl) (by kernel_rfl) (fun _ _ _ h => h) (by rfl) ?_ (by assumption) ?_
                rotate_left
                · intro w hSw
                  (try dsimp only at hSw)
                  go_simp
                  (try with_reducible rfl)
                (try simp only [Act.put, List.setIfInBounds_toArray, List.set_cons_zero, List.set_cons_succ])
                refine wpAnyH_ready (rs := [5]) (by kernel_rfl) (by simp) ?_
                refine AllReadyH.cons rfl (fun K hK => ?_) ?_
                · go_simp
                  refine hK.out _ _ trivial (fun hHeld => ?_)
                  clear hK K
                  (try simp only [Act.put, List.setIfInBounds_toArray, List.set_cons_zero, List.set_cons_succ])
                  refine wpAnyH_ready (rs := [6]) (by kernel_rfl) (by simp) ?_
                  refine AllReadyH.cons rfl (fun K hK => ?_) ?_
                  · refine step_append_int_at w6 rfl _ _ 29 rfl (r + 1) 3 i0 Try.underlying29 Hi.out hz0 hz1 hz2 (.slice P6 m6 q6) m6 p6 rfl HW6.out ((v6 : Int) - 1) rfl (by omega) (by have := HSC.out.2.lts; omega) ?_
                    intro v7 w7 hown7 hgrow7 hwh7
                    have SD := opr_S (OpR.row (OpR.alloc HSC.out.2 _) hgrow7 (fun b e => ⟨(HW6.out.lt b e).1, fun e2 => hne6 (e2 ▸ e)⟩))
                    have hne7 : v7.ownBlock ≠ some t := fun e => by rcases hwh7 with h7 | h7 <;> rw [h7] at e <;> first | exact hne6 e | (injection e with e; have := HSC.out.2.lts; omega)
                    have yf7 := (OpR.free SD.2) 1
                    have y8 := SD.1
                    have HSD := Lib.hid SD
                    have HO7 := Lib.hid hown7
                    have HN7 := Lib.hid hne7
                    clear SD hown7 hgrow7 hwh7 hne7
                    obtain ⟨A7, c7, rfl⟩ := own_slice HO7.out
                    refine hK.out _ _ trivial (fun hHeld => ?_)
                    clear hK K
                    (try simp only [Act.put, List.setIfInBounds_toArray])
                    refine rg_take (i := 7) (v := ?_) rfl (by kernel_rfl) (by kernel_rfl) (by kernel_rfl) (fun _ _ _ h => h) (by rfl) ?_ (by assumption) ?_
                    rotate_left
                    · intro w hSw
                      (try dsimp only at hSw)
                      go_simp
                      (try with_reducible rfl)
                    (try simp only [Act.put])
                    refine wpAnyH_ready (rs := [8]) (by kernel_rfl) (by simp) ?_
                    refine AllReadyH.cons rfl (fun K hK => ?_) ?_
                    · go_simp
                      refine hK.out _ _ trivial (fun hHeld => ?_)
                      clear hK K
                      (try simp only [Act.put, List.setIfInBounds_toArray, List.set_cons_zero, List.set_cons_succ])
                      refine wpAnyH_done (by kernel_rfl) ?_ _
                      have HOZ := Lib.hid (HSD.out.2.put1 HO7.out HN7.out (show m6 + 1 ≤ 32 by omega))
                      go_wp2
                      go_meet
                      exact ⟨rfl, HOZ.out⟩
                    exact AllReadyH.nil
                  exact AllReadyH.nil
                exact AllReadyH.nil
              exact AllReadyH.nil
            refine AllReadyH.cons rfl (fun K hK => ?_) ?_
            · go_simp
              go_at_call 110
              refine (l1Below_ex w5.drew B k _ (OpR.cur S0.out.2)).mono ?_
              rintro e w6 ⟨v6, rfl, hv6, c6, g6⟩
              have SC := opr_S (OpR.drawn S0.out.2 c6 g6)
              have y7 := SC.1
              have HSC := Lib.hid SC
              have HW6 := Lib.hid (own_apart HW5.out g6 (.inr fun e => by have := (HW5.out.lt B e).1; omega))
              have a6 : IntKind.i64.wrap ((v6 : Int) - 1) = (v6 : Int) - 1 := Kit.w64 (by omega) (by omega)
              have y9 : (w6.alloc (.cells #[.int .i64 ((v6 : Int) - 1)] 3)).cell? ⟨t, 1, none⟩ = some (.slice P6 m6 q6) := (opr_S (OpR.alloc SC.2 _)).1
              clear hv6 SC c6 g6
              go_wp2_with fail
              refine hK.out _ _ trivial (fun hHeld => ?_)
              clear hK K
              (try simp only [Act.put, List.setIfInBounds_toArray, List.set_cons_zero, List.set_cons_succ])
              refine rg_take (i := 4) (v := ?_) rfl (by kernel_rfl) (by kernel_rfl) (by kernel_rfl) (fun _ _ _ h => h) (by rfl) ?_ (by assumption) ?_
              rotate_left
              · intro w hSw
                (try dsimp only at hSw)
                go_simp
                (try with_reducible rfl)
              (try simp only [Act.put, List.setIfInBounds_toArray, List.set_cons_zero, List.set_cons_succ])
              refine wpAnyH_ready (rs := [1, 5]) (by kernel_rfl) (by simp) ?_
              refine AllReadyH.cons rfl (fun K hK => ?_) ?_
              · go_simp
                refine hK.out _ _ trivial (fun hHeld => ?_)
                clear hK K
                (try simp only [Act.put, List.setIfInBounds_toArray, List.set_cons_zero, List.set_cons_succ])
                refine wpAnyH_ready (rs := [5]) (by kernel_rfl) (by simp) ?_
                refine AllReadyH.cons rfl (fun K hK => ?_) ?_
                · go_simp
                  refine hK.out _ _ trivial (fun hHeld => ?_)
                  clear hK K
                  (try simp only [Act.put, List.setIfInBounds_toArray, List.set_cons_zero, List.set_cons_succ])
                  refine wpAnyH_ready (rs := [6]) (by kernel_rfl) (by simp) ?_
                  refine AllReadyH.cons rfl (fun K hK => ?_) ?_
                  · refine step_append_int_at w6 rfl _ _ 29 rfl (r + 1) 3 i0 Try.underlying29 Hi.out hz0 hz1 hz2 (.slice P6 m6 q6) m6 p6 rfl HW6.out ((v6 : Int) - 1) rfl (by omega) (by have := HSC.out.2.lts; omega) ?_
                    intro v7 w7 hown7 hgrow7 hwh7
                    have SD := opr_S (OpR.row (OpR.alloc HSC.out.2 _) hgrow7 (fun b e => ⟨(HW6.out.lt b e).1, fun e2 => hne6 (e2 ▸ e)⟩))
                    have hne7 : v7.ownBlock ≠ some t := fun e => by rcases hwh7 with h7 | h7 <;> rw [h7] at e <;> first | exact hne6 e | (injection e with e; have := HSC.out.2.lts; omega)
                    have yf7 := (OpR.free SD.2) 1
                    have y8 := SD.1
                    have HSD := Lib.hid SD
                    have HO7 := Lib.hid hown7
                    have HN7 := Lib.hid hne7
                    clear SD hown7 hgrow7 hwh7 hne7
                    obtain ⟨A7, c7, rfl⟩ := own_slice HO7.out
                    refine hK.out _ _ trivial (fun hHeld => ?_)
                    clear hK K
                    (try simp only [Act.put, List.setIfInBounds_toArray])
                    refine rg_take (i := 7) (v := ?_) rfl (by kernel_rfl) (by kernel_rfl) (by kernel_rfl) (fun _ _ _ h => h) (by rfl) ?_ (by assumption) ?_
                    rotate_left
                    · intro w hSw
                      (try dsimp only at hSw)
                      go_simp
                      (try with_reducible rfl)
                    (try simp only [Act.put])
                    refine wpAnyH_ready (rs := [8]) (by kernel_rfl) (by simp) ?_
                    refine AllReadyH.cons rfl (fun K hK => ?_) ?_
                    · go_simp
                      refine hK.out _ _ trivial (fun hHeld => ?_)
                      clear hK K
                      (try simp only [Act.put, List.setIfInBounds_toArray, List.set_cons_zero, List.set_cons_succ])
                      refine wpAnyH_done (by kernel_rfl) ?_ _
                      have HOZ := Lib.hid (HSD.out.2.put1 HO7.out HN7.out (show m6 + 1 ≤ 32 by omega))
                      go_wp2
                      go_meet
                      exact ⟨rfl, HOZ.out⟩
                    exact AllReadyH.nil
                  exact AllReadyH.nil
                exact AllReadyH.nil
              refine AllReadyH.cons rfl (fun K hK => ?_) ?_
              · go_simp
                refine hK.out _ _ trivial (fun hHeld => ?_)
                clear hK K
                (try simp only [Act.put, List.setIfInBounds_toArray, List.set_cons_zero, List.set_cons_succ])
                refine wpAnyH_ready (rs := [1]) (by kernel_rfl) (by simp) ?_
                refine AllReadyH.cons rfl (fun K hK => ?_) ?_
                · go_simp
                  refine hK.out _ _ trivial (fun hHeld => ?_)
                  clear hK K
                  (try simp only [Act.put, List.setIfInBounds_toArray, List.set_cons_zero, List.set_cons_succ])
                  refine wpAnyH_ready (rs := [6]) (by kernel_rfl) (by simp) ?_
                  refine AllReadyH.cons rfl (fun K hK => ?_) ?_
                  · refine step_append_int_at w6 rfl _ _ 29 rfl (r + 1) 3 i0 Try.underlying29 Hi.out hz0 hz1 hz2 (.slice P6 m6 q6) m6 p6 rfl HW6.out ((v6 : Int) - 1) rfl (by omega) (by have := HSC.out.2.lts; omega) ?_
                    intro v7 w7 hown7 hgrow7 hwh7
                    have SD := opr_S (OpR.row (OpR.alloc HSC.out.2 _) hgrow7 (fun b e => ⟨(HW6.out.lt b e).1, fun e2 => hne6 (e2 ▸ e)⟩))
                    have hne7 : v7.ownBlock ≠ some t := fun e => by rcases hwh7 with h7 | h7 <;> rw [h7] at e <;> first | exact hne6 e | (injection e with e; have := HSC.out.2.lts; omega)
                    have yf7 := (OpR.free SD.2) 1
                    have y8 := SD.1
                    have HSD := Lib.hid SD
                    have HO7 := Lib.hid hown7
                    have HN7 := Lib.hid hne7
                    clear SD hown7 hgrow7 hwh7 hne7
                    obtain ⟨A7, c7, rfl⟩ := own_slice HO7.out
                    refine hK.out _ _ trivial (fun hHeld => ?_)
                    clear hK K
                    (try simp only [Act.put, List.setIfInBounds_toArray])
                    refine rg_take (i := 7) (v := ?_) rfl (by kernel_rfl) (by kernel_rfl) (by kernel_rfl) (fun _ _ _ h => h) (by rfl) ?_ (by assumption) ?_
                    rotate_left
                    · intro w hSw
                      (try dsimp only at hSw)
                      go_simp
                      (try with_reducible rfl)
                    (try simp only [Act.put])
                    refine wpAnyH_ready (rs := [8]) (by kernel_rfl) (by simp) ?_
                    refine AllReadyH.cons rfl (fun K hK => ?_) ?_
                    · go_simp
                      refine hK.out _ _ trivial (fun hHeld => ?_)
                      clear hK K
                      (try simp only [Act.put, List.setIfInBounds_toArray, List.set_cons_zero, List.set_cons_succ])
                      refine wpAnyH_done (by kernel_rfl) ?_ _
                      have HOZ := Lib.hid (HSD.out.2.put1 HO7.out HN7.out (show m6 + 1 ≤ 32 by omega))
                      go_wp2
                      go_meet
                      exact ⟨rfl, HOZ.out⟩
                    exact AllReadyH.nil
                  exact AllReadyH.nil
                exact AllReadyH.nil
              exact AllReadyH.nil
            exact AllReadyH.nil
          all_goals (first | exact ⟨rfl, HOZ.out⟩ | exact ⟨rfl, (HO6.out.put0 _).more (by decide)⟩ | exact ⟨rfl, (HO7.out.put2 _).more (by decide)⟩ | exact ⟨rfl, (HO8.out.put3 _).more (by decide)⟩ | exact ⟨rfl, (HO8.out.put4 _).more (by decide)⟩ | exact ⟨rfl, HO5.out.more (by decide)⟩)
        case rest =>
          obtain ⟨rfl, hO⟩ := hcut
          have HO := Lib.hid hO
          clear hO
          obtain ⟨kd5, a5, f5, z5, p5, P5, m5, q5, ⟨y0, y1, y2, y3, y4⟩, yf5, ⟨u0, u1, u2, u3, u4⟩, uf5, ho5, hne5, hm5, hN5, hC5, hG5, -⟩ := HO.out
          have yf50 := yf5 0
          have yf51 := yf5 1
          have yf52 := yf5 2
          have yf53 := yf5 3
          have yf54 := yf5 4
          have uf50 := uf5 0
          have uf51 := uf5 1
          have uf52 := uf5 2
          have uf53 := uf5 3
          have uf54 := uf5 4
          have HZ2 := Lib.hid (And.intro HO.out hm5)
          have HOW := Lib.hid ho5
          go_wp2
          refine bodyPost_ret (v := .agg #[.int .i64 kd5, .slice P5 m5 q5, .int .i64 a5, .int .i64 f5, .int .i64 z5]) ?_ rfl ?_
          · rw [results_box1 rfl]
            go_simp
          · obtain ⟨kd, a, f, z, p, P, m, q, -, -, -, -, -, -, -, -, hC, hG, l1, l2, l3⟩ := HZ2.out.1
            have st (wv : World) (i : Nat) (v : Value) (h : wv.ownsRow w.heap.size 3 1 (.slice P5 m5 q5) m5 (ints p5) ∧ CurX wv B k ∧ w.grownBy wv (some B)) : (wv.setCell ⟨r, i, none⟩ v).ownsRow w.heap.size 3 1 (.slice P5 m5 q5) m5 (ints p5) ∧ CurX (wv.setCell ⟨r, i, none⟩ v) B k ∧ w.grownBy (wv.setCell ⟨r, i, none⟩ v) (some B) :=
              ⟨own_apart h.1 (Kit.grown_set wv r i v) (.inr fun e => by have := (HOW.out.lt r e).1; omega), h.2.1.kept (Kit.grown_set wv r i v) (fun g e => by injection e with e; omega), og_set h.2.2 l2 _ _⟩
            obtain ⟨s1, s2, s3⟩ := st _ 4 (.int .i64 z5) (st _ 3 (.int .i64 f5) (st _ 2 (.int .i64 a5) (st _ 1 (.slice P5 m5 q5) (st _ 0 (.int .i64 kd5) ⟨own_base HOW.out (by omega), hC, hG⟩))))
            exact ⟨kd5, a5, f5, z5, p5, P5, m5, q5, rfl, HZ2.out.2, s1, s2, s3⟩

end Go.Proofs.Ytgkkeejhfofcaaa
