/- Texts of one claim laid into one file, in build order: DrMp, DrMa, DrBm, DrMb, DrMc. -/
import Derived.Test.YtlndaflhlkbedaaMc1
import Derived.Test.YtlndaflhlkbedaaMc4
import Derived.Test.YtlndaflhlkbedaaMc6
import Derived.Test.YtlndaflhlkbedaaMc7
import Derived.Test.YtlndaflhlkbedaaMg12
import Derived.Maps.AppendAt
/- Contracts (DrMp). -/
namespace Go.Proofs.Ytlndaflhlkbedaa
open Go.RowKit
set_option linter.unusedVariables false

theorem step_append_nodes_at {P : Program} {ops : Array Oper} {o : Oper} {a : Act} (w : World) {K : Act → World → Prop} {Q : Exit → Act → World → Prop} {E : Prop} (hgd : o.guard = none) (s x : Operand) (t : TypeId)
    (ho : o.op = .call { callee := .builtin .append, args := #[s, x], argTypes := #[t, t] })
    (base : Nat) (e : TypeId) (i : TypeInfo) (ht : P.underlying t = some (.slice e)) (hi : P.info? e = some i) (hz : i.zero = some (.agg #[.int .i64 0, .int .i64 0]))
    (hsize : i.size = 2) (hby : i.bytes = 16) (v : Value) (n m N : Nat) (l zs : Tr) (hs : a.eval s = v) (hown : w.ownsRow base e 2 v n (Tr.cells l))
    {B : Nat} (ad : Addr) (c : Nat) (hx : a.eval x = .slice (some ad) m c) (hin : NdIn w B (some ad) m zs) (hN : n + m = N)
    (h63 : N ≤ 1073741824) (hbase : base ≤ w.heap.size)
    (h : ∀ v' w', w'.ownsRow base e 2 v' N (Tr.cells (l ++ zs)) → w.grownBy w' v.ownBlock → (v'.ownBlock = v.ownBlock ∨ v'.ownBlock = some w.heap.size) → K (a.put o.dst v') w') :
    if Region.wanted o (yielded ops a.tmps) = true then Oper.wp P o a w K Q else E := by
  have hw : Region.wanted o (yielded ops a.tmps) = true := by simp [Region.wanted, hgd]
  rw [if_pos hw]
  subst hN
  obtain ⟨v', w', hr, h2, h3, _, h5⟩ := run_append_own_at (P := P) w base t o.type e i (.agg #[.int .i64 0, .int .i64 0]) 2 16 ht hi hz hsize hby rfl (by decide) v n (Tr.cells l) hown ad m c (Tr.cells zs) (by rw [Tr.cells_length, hin.1]) hin.cells_at (Tr.cells_cell _) (by unfold maxLen; omega) (by omega) hbase
  unfold Oper.wp execOp
  simp only [ho, resolve, invoke, builtin, Sem.run_bind, Sem.run_pure, Result.andThen_ok, List.map_toArray, List.map_cons, List.map_nil, hs, hx, hr]
  refine h v' w' ?_ h3 h5
  rw [Tr.cells_append]
  exact h2
/-- a row of pairs beside the cursor -/
structure MS (w0 : World) (B : Nat) (k : Code) (gm cm : Nat) (M : Tr) (w : World) : Prop where
  own : w.ownsRow w0.heap.size 55 2 (.slice (some ⟨gm, 0, none⟩) M.length cm) M.length (Tr.cells M)
  cur : CurX w B k
  gr : w0.grownBy w (some B)
  lB : B < w0.heap.size
section
variable {w0 w w' : World} {B gm cm : Nat} {k : Code} {M : Tr}
theorem MS.grown (h : MS w0 B k gm cm M w) {row : Option Nat} (g : w.grownBy w' row) (hr : ∀ b, row = some b → w0.heap.size ≤ b ∧ b ≠ gm) : MS w0 B k gm cm M w' :=
  ⟨h.own.kept g (.inr (fun e => by have := (hr gm e.symm).2; omega)), h.cur.kept g (fun b e => by have := (hr b e).1; have := h.lB; omega), h.gr.andThen g (fun b e => .inl (hr b e).1), h.lB⟩
theorem MS.alloc (h : MS w0 B k gm cm M w) (o : Obj) : MS w0 B k gm cm M (w.alloc o) := h.grown (World.grownBy_alloc w o none) (fun b e => by cases e)
theorem MS.drawn (h : MS w0 B k gm cm M w) (hd : Drawn w w') : MS w0 B k gm cm M w' := h.grown (grownB_below hd.toBelow none) (fun b e => by cases e)
theorem MS.turn (h : MS w0 B k gm cm M w) (c : CurX w' B k) (g : w.grownBy w' (some B)) : MS w0 B k gm cm M w' := ⟨Kit.keptRow h.own h.lB g, c, Kit.grown_trans h.gr g, h.lB⟩
theorem MS.size (h : MS w0 B k gm cm M w) : w0.heap.size ≤ w.heap.size := h.gr.size
theorem MS.gl (h : MS w0 B k gm cm M w) : w0.heap.size ≤ gm ∧ gm < w.heap.size := h.own.lt gm rfl
end
/-- what is drawn: pairs of small numbers, one at least -/
def Sml (M : Tr) : Prop := ∀ e ∈ M, (0 ≤ e.1 ∧ e.1 ≤ 31) ∧ 0 ≤ e.2 ∧ e.2 ≤ 31
theorem Sml.last {M : Tr} (h : Sml M) (hl : 1 ≤ M.length) : 0 ≤ Tr.d M (M.length - 1) ∧ Tr.d M (M.length - 1) ≤ 31 := by
  have := h M[M.length - 1] (List.getElem_mem (by omega))
  rw [pr_at M (show M.length - 1 < M.length by omega)] at this
  exact this.2
theorem info_prD : (Try.prog.info? 55).map (fun i => (i.zero, i.size, i.bytes)) = some (some (.agg #[.int .i64 0, .int .i64 0]), 2, 16) := by kernel_rfl
theorem MS.nd {w0 w : World} {B gm cm : Nat} {k : Code} {M : Tr} (h : MS w0 B k gm cm M w) : NdIn w w.heap.size (some ⟨gm, 0, none⟩) M.length M := NdIn.of_own h.own
theorem MS.read {w0 w : World} {B gm cm p : Nat} {k : Code} {M : Tr} {ad : Addr} (h : MS w0 B k gm cm M w) (had : ad = ⟨gm, 0, none⟩) (hp : p + 1 = M.length) : w.cell? ⟨(ad.add (p * 2)).block, (ad.add (p * 2)).off + 1, none⟩ = some (.int .i64 (Tr.d M p)) := by
  subst had
  exact (h.nd.here (show p < M.length by omega)).2
theorem own_at {w : World} {base n size : Nat} {e : TypeId} {v : Value} {ys : List Value} (h : w.ownsRow base e size v n ys) (hn : 1 ≤ n) : ∃ g c, v = .slice (some ⟨g, 0, none⟩) n c := by
  rcases h.2 with ⟨_, h0⟩ | ⟨g, cap, cur, hv, _⟩
  · omega
  · exact ⟨g, cap, hv⟩
theorem Sml.of {xs ys M : Tr} (hx : xs.length ≤ 31) (hy : ys.length ≤ 31) (h : Mp.ok xs ys M = true) : Sml M := fun e he => by
  obtain ⟨_, _, h3, _⟩ := Mp.ok_iff.1 h
  have a := (Tr.has_iff.1 (h3 e he).1).2
  have b := (Tr.has_iff.1 (h3 e he).2).2
  omega
set_option maxHeartbeats 3200000 in
set_option maxRecDepth 100000 in
theorem l10Map_ex (w : World) (B : Nat) (k : Code) (A A' : Option Addr) (n n' cp cp' : Nat) (xs ys : Tr) (hn : n ≤ 31) (hn' : n' ≤ 31) (B0 : Nat) (hA : NdAt w B0 A n xs) (hB : NdAt w B0 A' n' ys) (hB0 : B < B0) (c : CurX w B k) :
    Calls Try.prog 144 #[.pointer (some ⟨B, 0, none⟩), .slice A n cp, .slice A' n' cp'] w fun e w' => ∃ M gm cm, e = .returned (.slice (some ⟨gm, 0, none⟩) M.length cm) ∧ MS w B k gm cm M w' ∧ Sml M ∧ 1 ≤ M.length ∧ M.length ≤ 32 := by
  obtain ⟨i0, hi, hz0, hz1, hz2⟩ := info_parts info_prD
  have HA := Lib.hid hA
  have HB := Lib.hid hB
  have HC := Lib.hid c
  have hBB := c.lt
  have Hi := Lib.hid hi
  clear hi
  have LA := Lib.hid hA.1.1
  have LB := Lib.hid hB.1.1
  clear hA hB c
  go_enter Try.func144, Try.ntmps144
  go_wp2_with fail
  go_loopw [8, 7] (fun iv mv wr => ∃ (i gm cm : Nat) (M : Tr), 1 ≤ i ∧ i ≤ 32 ∧ iv = .int .i64 i ∧ mv = .slice (some ⟨gm, 0, none⟩) M.length cm ∧ MS w B k gm cm M wr ∧ Sml M ∧ 1 ≤ M.length ∧ M.length ≤ i) (fun v _ _ => 33 - (intOf v).toNat)
  case atStart =>
    have h0 : (w.alloc (.cells #[.int .i64 0, .int .i64 0] 55)).ownsRow w.heap.size 55 2 (.slice (some ⟨w.heap.size, 0, none⟩) 1 1) 1 (Tr.cells [(0, 0)]) := by exact World.ownsRow_lit (base := w.heap.size) (e := 55) (size := 2) w #[.int .i64 0, .int .i64 0] 1 (Nat.le_refl _) (by decide) rfl
    exact ⟨1, w.heap.size, 1, [(0, 0)], Nat.le_refl _, by omega, rfl, rfl, ⟨h0, HC.out.alloc _, World.grownBy_alloc _ _ _, hBB⟩, fun e he => by rw [List.mem_singleton.1 he]; decide, Nat.le_refl _, Nat.le_refl _⟩
  case round =>
    obtain ⟨i, gm, cm, M, hi1, hi2, rfl, rfl, hM, hs, hl1, hl2⟩ := hrel
    have MM := Lib.hid hM
    have SS := Lib.hid hs
    have LI := Lib.hid (show 1 ≤ i ∧ i ≤ 32 ∧ 1 ≤ M.length ∧ M.length ≤ i from ⟨hi1, hi2, hl1, hl2⟩)
    clear hM hs hl1 hl2
    by_cases hlt : i < n
    · have k0 : (i : Int) < (n : Int) := by omega
      go_wp2_with fail
      go_loopw [9, 7] (fun tv mv wr => ∃ t : Nat, t ≤ 3 ∧ tv = .int .i64 t ∧ mv = .slice (some ⟨gm, 0, none⟩) M.length cm ∧ MS w B k gm cm M wr) (fun v _ _ => 3 - (intOf v).toNat)
      case atStart => exact ⟨0, by omega, rfl, rfl, MM.out⟩
      case round =>
        clear MM
        obtain ⟨t, ht, rfl, rfl, hM⟩ := hrel
        have MM := Lib.hid hM
        clear hM
        by_cases hlt2 : t < 3
        · have k1 : (t : Int) < 3 := by omega
          go_wp2_with fail
          obtain ⟨p, hp⟩ : ∃ p, p + 1 = M.length := ⟨M.length - 1, by have := LI.out; omega⟩
          have HP := Lib.hid hp
          have LM := Lib.hid (show M.length ≤ 32 by have := LI.out; omega)
          obtain ⟨wn, hwn⟩ : ∃ x, x = wr.drew := ⟨_, rfl⟩
          have M4 := Lib.hid (show MS w B k gm cm M wn by rw [hwn]; exact MM.out.drawn (Drawn.refl _).drew)
          obtain ⟨ad, had⟩ : ∃ ad : Addr, ad = ⟨gm, 0, none⟩ := ⟨_, rfl⟩
          have AD := Lib.hid had
          obtain ⟨D, hD⟩ : ∃ D : Int, D = Tr.d M p + 1 := ⟨_, rfl⟩
          have hd31 := SS.out.last LI.out.2.2.1
          rw [show M.length - 1 = p by omega] at hd31
          have HD := Lib.hid (show 1 ≤ D ∧ D ≤ 32 by omega)
          have a1 : IntKind.i64.wrap ((M.length : Int) - 1) = (p : Int) := by have := LM.out; rw [Kit.w64 (by omega) (by omega)]; omega
          have a2 : IntKind.i64.wrap (Tr.d M p + 1) = D := by rw [Kit.w64 (by omega) (by omega)]; exact hD.symm
          have k2 : (0 : Int) ≤ (p : Int) := by omega
          have k3 : (p : Int) < (M.length : Int) := by omega
          clear hp hd31 hD
          rw [← had]
          refine wp_region_held_drew (S := (fun wq => wq.cell? ⟨(ad.add (p * 2)).block, (ad.add (p * 2)).off + 1, none⟩ = some (.int .i64 (Tr.d M p)))) (by kernel_rfl) (by rw [← hwn]; exact M4.out.read AD.out HP.out) (fun hHeld => ?_)
          rw [← hwn] at hHeld ⊢
          clear hwn had MM
          refine rg_take (i := 1) (v := ?_) rfl (by kernel_rfl) (by kernel_rfl) (by kernel_rfl) (fun _ _ _ h => h) (by rfl) ?_ (by assumption) ?_
          rotate_left
          · intro w hSw
            (try dsimp only at hSw)
            go_simp
            (try with_reducible rfl)
          (try simp only [Act.put, List.setIfInBounds_toArray, List.set_cons_zero, List.set_cons_succ])
          refine rg_take (i := 3) (v := ?_) rfl (by kernel_rfl) (by kernel_rfl) (by kernel_rfl) (fun _ _ _ h => h) (by rfl) ?_ (by assumption) ?_
          rotate_left
          · intro w hSw
            (try dsimp only at hSw)
            go_simp
            (try with_reducible rfl)
          (try simp only [Act.put, List.setIfInBounds_toArray, List.set_cons_zero, List.set_cons_succ])
          refine rg_take (i := 4) (v := ?_) rfl (by kernel_rfl) (by kernel_rfl) (by kernel_rfl) (fun _ _ _ h => h) (by rfl) ?_ (by assumption) ?_
          rotate_left
          · intro w hSw
            (try dsimp only at hSw)
            go_simp
            (try with_reducible rfl)
          (try simp only [Act.put, List.setIfInBounds_toArray, List.set_cons_zero, List.set_cons_succ])
          refine rg_take (i := 5) (v := ?_) rfl (by kernel_rfl) (by kernel_rfl) (by kernel_rfl) (fun _ _ _ h => h) (by rfl) ?_ (by assumption) ?_
          rotate_left
          · intro w hSw
            (try dsimp only at hSw)
            go_simp
            (try with_reducible rfl)
          (try simp only [Act.put, List.setIfInBounds_toArray, List.set_cons_zero, List.set_cons_succ])
          refine rg_take (i := 6) (v := ?_) rfl (by kernel_rfl) (by kernel_rfl) (by kernel_rfl) (fun _ _ _ h => h) (by rfl) ?_ (by assumption) ?_
          rotate_left
          · intro w hSw
            (try dsimp only at hSw)
            go_simp
            (try with_reducible rfl)
          (try simp only [Act.put, List.setIfInBounds_toArray, List.set_cons_zero, List.set_cons_succ])
          refine rg_take (i := 7) (v := ?_) rfl (by kernel_rfl) (by kernel_rfl) (by kernel_rfl) (fun _ _ _ h => h) (by rfl) ?_ (by assumption) ?_
          rotate_left
          · intro w hSw
            (try dsimp only at hSw)
            go_simp
            (try with_reducible rfl)
          (try simp only [Act.put, List.setIfInBounds_toArray, List.set_cons_zero, List.set_cons_succ])
          refine rg_take (i := 8) (v := ?_) rfl (by kernel_rfl) (by kernel_rfl) (by kernel_rfl) (fun _ _ _ h => h) (by rfl) ?_ (by assumption) ?_
          rotate_left
          · intro w hSw
            (try dsimp only at hSw)
            go_simp
            (try with_reducible rfl)
          (try simp only [Act.put, List.setIfInBounds_toArray, List.set_cons_zero, List.set_cons_succ])
          refine rg_take (i := 9) (v := ?_) rfl (by kernel_rfl) (by kernel_rfl) (by kernel_rfl) (fun _ _ _ h => h) (by rfl) ?_ (by assumption) ?_
          rotate_left
          · intro w hSw
            (try dsimp only at hSw)
            go_simp
            (try with_reducible rfl)
          (try simp only [Act.put, List.setIfInBounds_toArray, List.set_cons_zero, List.set_cons_succ])
          refine rg_take (i := 10) (v := ?_) rfl (by kernel_rfl) (by kernel_rfl) (by kernel_rfl) (fun _ _ _ h => h) (by rfl) ?_ (by assumption) ?_
          rotate_left
          · intro w hSw
            (try dsimp only at hSw)
            go_simp
            (try with_reducible rfl)
          (try simp only [Act.put, List.setIfInBounds_toArray, List.set_cons_zero, List.set_cons_succ])
          refine rg_take (i := 11) (v := ?_) rfl (by kernel_rfl) (by kernel_rfl) (by kernel_rfl) (fun _ _ _ h => h) (by rfl) ?_ (by assumption) ?_
          rotate_left
          · intro w hSw
            (try dsimp only at hSw)
            go_simp
            (try with_reducible rfl)
          (try simp only [Act.put, List.setIfInBounds_toArray, List.set_cons_zero, List.set_cons_succ])
          refine rg_take (i := 12) (v := ?_) rfl (by kernel_rfl) (by kernel_rfl) (by kernel_rfl) (fun _ _ _ h => h) (by rfl) ?_ (by assumption) ?_
          rotate_left
          · intro w hSw
            (try dsimp only at hSw)
            go_simp
            (try with_reducible rfl)
          (try simp only [Act.put, List.setIfInBounds_toArray, List.set_cons_zero, List.set_cons_succ])
          refine wpAnyH_ready (rs := [0]) (by kernel_rfl) (by simp) ?_
          refine AllReadyH.cons rfl (fun K hK => ?_) ?_
          · go_simp
            obtain ⟨g5, hg5⟩ : ∃ x, x = wn.heap.size := ⟨_, rfl⟩
            have F5 := Lib.hid (show w.heap.size ≤ g5 ∧ gm < g5 ∧ B < g5 by rw [hg5]; have := M4.out.gl; have := M4.out.size; have := M4.out.lB; omega)
            have o5 : (World.alloc wn (.cells #[] 55)).ownsRow wn.heap.size 55 2 (.slice (some ⟨wn.heap.size, 0, none⟩) 0 0) 0 (Tr.cells []) := by exact World.ownsRow_lit (base := wn.heap.size) (e := 55) (size := 2) wn #[] 0 (Nat.le_refl _) (Nat.zero_le _) rfl
            have M5 := Lib.hid (M4.out.alloc (.cells #[] 55))
            have Z5 : (World.alloc wn (.cells #[] 55)).heap.size = g5 + 1 := by rw [hg5]; simp
            generalize hwy : World.alloc _ _ = wy
            rw [hwy] at o5 M5 Z5
            rw [← hg5] at o5 ⊢
            have O5 := Lib.hid o5
            have Z5 := Lib.hid Z5
            clear o5 hwy hg5
            refine hK.out _ _ (M5.out.read AD.out HP.out) (fun hHeld => ?_)
            clear hK K
            (try simp only [Act.put, List.setIfInBounds_toArray, List.set_cons_zero, List.set_cons_succ])
            refine wpAnyH_ready (rs := [2]) (by kernel_rfl) (by simp) ?_
            refine AllReadyH.cons rfl (fun K hK => ?_) ?_
            · refine step_append_nodes_at wy rfl _ _ 43 rfl g5 55 i0 Try.underlying43 Hi.out hz0 hz1 hz2 (.slice (some ⟨g5, 0, none⟩) 0 0) 0 M.length M.length [] M rfl O5.out ad cm rfl (by rw [AD.out]; exact M5.out.nd) (by omega) (by have := LM.out; omega) (by have := Z5.out; omega) ?_
              rintro v8 w8 hown8 hgrow8 -
              rw [List.nil_append] at hown8
              obtain ⟨A8, c8, rfl⟩ := own_slice hown8
              have M8 := Lib.hid (M5.out.grown hgrow8 (fun b e => by obtain rfl : g5 = b := Option.some.inj e; have := F5.out; omega))
              have O8 := Lib.hid hown8
              have Z8 := Lib.hid (show g5 ≤ w8.heap.size by have := hgrow8.size; have := Z5.out; omega)
              clear hown8 hgrow8
              refine hK.out _ _ (M8.out.read AD.out HP.out) (fun hHeld => ?_)
              clear hK K
              refine wpAnyH_ready (rs := [13]) (by kernel_rfl) (by simp) ?_
              refine AllReadyH.cons rfl (fun K hK => ?_) ?_
              · go_simp
                go_at_call 87
                refine (l1Below_ex _ B k 3 M8.out.cur).mono ?_
                rintro e wz ⟨t2, rfl, ht2, c9, g9⟩
                have M9 := Lib.hid (M8.out.turn c9 g9)
                have O9 := Lib.hid (Kit.keptRow O8.out F5.out.2.2 g9)
                obtain ⟨z, hz⟩ : ∃ z : Int, z = D + (t2 : Int) := ⟨_, rfl⟩
                have a3 : IntKind.i64.wrap (D + (t2 : Int)) = z := by have := HD.out; rw [hz, Kit.w64 (by omega) (by omega)]
                have Z9 := Lib.hid (show g5 ≤ wz.heap.size from Nat.le_trans Z8.out g9.size)
                clear c9 g9 hz
                go_wp2_with fail
                refine hK.out _ _ (M9.out.read AD.out HP.out) (fun hHeld => ?_)
                clear hK K
                (try simp only [Act.put, List.setIfInBounds_toArray, List.set_cons_zero, List.set_cons_succ])
                refine rg_take (i := 14) (v := ?_) rfl (by kernel_rfl) (by kernel_rfl) (by kernel_rfl) (fun _ _ _ h => h) (by rfl) ?_ (by assumption) ?_
                rotate_left
                · intro w hSw
                  (try dsimp only at hSw)
                  go_simp
                  (try with_reducible rfl)
                (try simp only [Act.put, List.setIfInBounds_toArray, List.set_cons_zero, List.set_cons_succ])
                refine rg_take (i := 15) (v := ?_) rfl (by kernel_rfl) (by kernel_rfl) (by kernel_rfl) (fun _ _ _ h => h) (by rfl) ?_ (by assumption) ?_
                rotate_left
                · intro w hSw
                  (try dsimp only at hSw)
                  go_simp
                  (try with_reducible rfl)
                (try simp only [Act.put, List.setIfInBounds_toArray, List.set_cons_zero, List.set_cons_succ])
                refine wpAnyH_ready (rs := [16]) (by kernel_rfl) (by simp) ?_
                refine AllReadyH.cons rfl (fun K hK => ?_) ?_
                · go_simp
                  have M10 := Lib.hid (M9.out.alloc (.cells #[.int .i64 (i : Int), .int .i64 z] 55))
                  refine hK.out _ _ (M10.out.read AD.out HP.out) (fun hHeld => ?_)
                  clear hK K
                  (try simp only [Act.put, List.setIfInBounds_toArray, List.set_cons_zero, List.set_cons_succ])
                  refine wpAnyH_ready (rs := [17]) (by kernel_rfl) (by simp) ?_
                  refine AllReadyH.cons rfl (fun K hK => ?_) ?_
                  · refine step_append_pair wz rfl _ _ 43 rfl g5 55 i0 Try.underlying43 Hi.out hz0 hz1 hz2 (.slice A8 M.length c8) M.length M rfl O9.out rfl (i : Int) z rfl (by have := LM.out; omega) Z9.out ?_
                    intro v' w8' hown8 hgrow8
                    obtain ⟨L2, hL2⟩ : ∃ x, x = M ++ [((i : Int), z)] := ⟨_, rfl⟩
                    rw [← hL2] at hown8
                    have HL2 := Lib.hid (show L2.length = M.length + 1 by rw [hL2]; simp)
                    obtain ⟨g7, c7, rfl⟩ := own_at hown8 (by rw [HL2.out]; omega)
                    have M11 := Lib.hid (M10.out.grown hgrow8 (fun b e => by have := (O9.out.lt b e).1; have := F5.out; omega))
                    have O11 := Lib.hid (own_base hown8 F5.out.1)
                    clear hown8 hgrow8 hL2
                    refine hK.out _ _ (M11.out.read AD.out HP.out) (fun hHeld => ?_)
                    clear hK K
                    refine rg_take (i := 18) (v := ?_) rfl (by kernel_rfl) (by kernel_rfl) (by kernel_rfl) (fun _ _ _ h => h) (by rfl) ?_ (by assumption) ?_
                    rotate_left
                    · intro w hSw
                      (try dsimp only at hSw)
                      go_simp
                      (try with_reducible rfl)
                    (try simp only [Act.put, List.setIfInBounds_toArray])
                    refine wpAnyH_done (by kernel_rfl) ?_ _
                    go_wp2_with fail
                    refine (specMapOk_any _ _ _ _ _ _ cp cp' c7 xs ys L2 w8' (HA.out.cur hB0 M11.out.gr).1 (HB.out.cur hB0 M11.out.gr).1 (NdIn.of_own O11.out) (by omega) (by omega) (by have := HL2.out; have := LM.out; omega)).mono ?_
                    rintro e w9 ⟨rfl, hd⟩
                    have M12 := Lib.hid (M11.out.drawn hd)
                    have O12 := Lib.hid (own_drawn O11.out hd)
                    clear hd a1 a2 a3 hHeld
                    cases hok : Mp.ok xs ys L2
                    · go_wp2
                      go_roundw
                      case rel => exact ⟨t + 1, by omega, by go_num, by rw [AD.out], M12.out⟩
                      case measure => simp [intOf]; omega
                    · have SM := Lib.hid (Sml.of (by have := LA.out; omega) (by have := LB.out; omega) hok)
                      clear hok
                      go_wp2
                      go_roundw
                      case rel => exact ⟨i + 1, g7, c7, L2, by omega, by omega, by go_num, rfl, ⟨O12.out, M12.out.cur, M12.out.gr, M12.out.lB⟩, SM.out, by have := HL2.out; omega, by have := HL2.out; have := LI.out; omega⟩
                      case measure => simp [intOf]; omega
                  exact AllReadyH.nil
                exact AllReadyH.nil
              exact AllReadyH.nil
            exact AllReadyH.nil
          exact AllReadyH.nil
        · obtain rfl : t = 3 := by omega
          go_wp2
          go_roundw
          case rel => exact ⟨i + 1, gm, cm, M, by omega, by omega, by go_num, rfl, MM.out, SS.out, LI.out.2.2.1, by have := LI.out; omega⟩
          case measure => simp [intOf]; omega
    · have k0 : ¬ (i : Int) < (n : Int) := by omega
      go_wp2
      go_ret
      exact ⟨M, gm, cm, rfl, MM.out, SS.out, LI.out.2.2.1, by have := LI.out; omega⟩

end Go.Proofs.Ytlndaflhlkbedaa

/- Contracts (DrMa). -/
namespace Go.Proofs.Ytlndaflhlkbedaa
open Go.RowKit
set_option linter.unusedVariables false

def Bd (e : Int × Int) : Prop := (-1 ≤ e.1 ∧ e.1 ≤ 64) ∧ -1 ≤ e.2 ∧ e.2 ≤ 64
/-- pairs of small numbers -/
def Smz (M : Tr) : Prop := ∀ e ∈ M, Bd e
theorem Sml.smz {M : Tr} (h : Sml M) : Smz M := fun e he => by
  have := h e he
  unfold Bd
  omega
theorem Smz.at_ {M : Tr} (h : Smz M) {q : Nat} (hq : q < M.length) : Bd (Tr.l M q, Tr.d M q) := by
  have := h M[q] (List.getElem_mem hq)
  rw [pr_at M hq] at this
  exact this
theorem Smz.set {M : Tr} (h : Smz M) {q : Nat} {e : Int × Int} (he : Bd e) : Smz (M.set q e) := fun x hx => (List.mem_or_eq_of_mem_set hx).elim (h x) (fun e => e ▸ he)
theorem Smz.app {M : Tr} (h : Smz M) {e : Int × Int} (he : Bd e) : Smz (M ++ [e]) := fun x hx => (List.mem_append.1 hx).elim (h x) (fun e => List.mem_singleton.1 e ▸ he)
theorem Smz.wf {M : Tr} (h : Smz M) : Tr.wf M := fun q => by
  by_cases hq : q < M.length
  · have := h.at_ hq
    unfold Bd at this
    dsimp only at this
    omega
  · have e : M[q]? = none := List.getElem?_eq_none (by omega)
    simp [Tr.l, Tr.d, e]
def AnyM (w : World) (B : Nat) (k : Code) (e : Ending) (w' : World) : Prop :=
  ∃ (M : Tr) (A : Option Addr) (n cp : Nat), e = .returned (.slice A n cp) ∧ NdAt w' w.heap.size A n M ∧ n ≤ cp ∧ n ≤ 33 ∧ Smz M ∧ CurX w' B k ∧ w.grownBy w' (some B)
set_option maxHeartbeats 3200000 in
set_option maxRecDepth 100000 in
theorem l10Any_ex (w : World) (B : Nat) (k : Code) (A A' : Option Addr) (n n' cp cp' : Nat) (xs ys : Tr) (hn : n ≤ 31) (hn' : n' ≤ 31) (B0 : Nat) (hA : NdAt w B0 A n xs) (hB : NdAt w B0 A' n' ys) (hB0 : B < B0) (c : CurX w B k) :
    Calls Try.prog 136 #[.pointer (some ⟨B, 0, none⟩), .slice A n cp, .slice A' n' cp'] w (AnyM w B k) := by
  obtain ⟨i0, hi, hz0, hz1, hz2⟩ := info_parts info_prD
  have Hi := Lib.hid hi
  clear hi
  have hBB := c.lt
  go_enter Try.func136, Try.ntmps136
  go_wp2_with fail
  refine (l10Map_ex w B k A A' n n' cp cp' xs ys hn hn' B0 hA hB hB0 c).mono ?_
  rintro e w1 ⟨M, gm, cm, rfl, hM, hs, hl1, hl2⟩
  have HM := Lib.hid hM
  have HS := Lib.hid hs.smz
  clear hM hs hA hB c hB0
  go_wp2_with fail
  refine (l1Below_ex _ B k M.length HM.out.cur).mono ?_
  rintro e w2 ⟨v, rfl, hv, c, g⟩
  have HM := Lib.hid (HM.out.turn c g)
  clear c g
  have hv : v < M.length := by omega
  go_wp2_with fail
  refine (l1Below_ex _ B k 12 HM.out.cur).mono ?_
  rintro e w3 ⟨u, rfl, hu, c, g⟩
  have HM := Lib.hid (HM.out.turn c g)
  have Ho := Lib.hid HM.out.own
  have GB := Lib.hid HM.out.gl.1
  clear c g
  have q0 : (0 : Int) ≤ (v : Int) := by omega
  have q1 : (v : Int) < (M.length : Int) := by omega
  by_cases h0 : u = 0
  · have e0 : ((u : Int) == 0) = true := by simp [h0]
    go_wp2_with fail
    refine (l1Below_ex _ B k ((n' : Int) + 1) HM.out.cur).mono ?_
    rintro e w4 ⟨x, rfl, hx, c, g⟩
    have HM := Lib.hid (HM.out.turn c g)
    have Ho := Lib.hid HM.out.own
    clear c g
    have EB := Lib.hid (show Bd (Tr.l M v, (x : Int)) from ⟨(HS.out.at_ hv).1, by show (-1 : Int) ≤ (x : Int); omega, by show (x : Int) ≤ 64; omega⟩)
    have c0 := own_odd Ho.out (k := v) hv
    have f0 := Ho.out.frozenAt (v * 2 + 1)
    go_wp2
    go_ret
    have ho' := (Ho.out.stored (v * 2 + 1) (.int .i64 x)).1
    rw [Tr.cells_set_odd'] at ho'
    have ho := ho'
    have hL : M.length = (M.set v (Tr.l M v, (x : Int))).length := by simp
    exact ⟨M.set v (Tr.l M v, (x : Int)), _, _, _, rfl, NdAt.of_own ho, own_cap Ho.out, by omega, HS.out.set EB.out, HM.out.cur.kept (Ho.out.stored (v * 2 + 1) (.int .i64 x)).2 (fun j hj => by have := (Ho.out.lt j hj).1; omega), HM.out.gr.andThen (Ho.out.stored (v * 2 + 1) (.int .i64 x)).2 (fun j hj => .inl (by have := (Ho.out.lt j hj).1; omega))⟩
  · have e0 : ((u : Int) == 0) = false := beq_eq_false_iff_ne.2 (by omega)
    by_cases h1 : u = 1
    · have e1 : ((u : Int) == 1) = true := by simp [h1]
      go_wp2_with fail
      refine (l1Below_ex _ B k ((n : Int) + 2) HM.out.cur).mono ?_
      rintro e w4 ⟨x, rfl, hx, c, g⟩
      have HM := Lib.hid (HM.out.turn c g)
      have Ho := Lib.hid HM.out.own
      clear c g
      have a5 : IntKind.i64.wrap ((x : Int) - 1) = (x : Int) - 1 := Kit.w64 (by omega) (by omega)
      have EB := Lib.hid (show Bd ((x : Int) - 1, Tr.d M v) from ⟨⟨by show (-1 : Int) ≤ (x : Int) - 1; omega, by show (x : Int) - 1 ≤ 64; omega⟩, (HS.out.at_ hv).2⟩)
      have c0 := own_even Ho.out (k := v) hv
      have f0 := Ho.out.frozenAt (v * 2)
      go_wp2
      go_ret
      have ho' := (Ho.out.stored (v * 2) (.int .i64 ((x : Int) - 1))).1
      rw [Tr.cells_set_even] at ho'
      have ho := ho'
      have hL : M.length = (M.set v ((x : Int) - 1, Tr.d M v)).length := by simp
      exact ⟨M.set v ((x : Int) - 1, Tr.d M v), _, _, _, rfl, NdAt.of_own ho, own_cap Ho.out, by omega, HS.out.set EB.out, HM.out.cur.kept (Ho.out.stored (v * 2) (.int .i64 ((x : Int) - 1))).2 (fun j hj => by have := (Ho.out.lt j hj).1; omega), HM.out.gr.andThen (Ho.out.stored (v * 2) (.int .i64 ((x : Int) - 1))).2 (fun j hj => .inl (by have := (Ho.out.lt j hj).1; omega))⟩
    · have e1 : ((u : Int) == 1) = false := beq_eq_false_iff_ne.2 (by omega)
      by_cases h2 : u = 2
      · have e2 : ((u : Int) == 2) = true := by simp [h2]
        have hcap := own_cap Ho.out
        have b1 : (1 : Int) ≤ (M.length : Int) := by omega
        have b2 : (M.length : Int) ≤ (cm : Int) := by omega
        by_cases hcp : cm = 1
        · subst hcp
          go_wp2
          go_ret
          exact ⟨[], _, _, _, rfl, ⟨⟨by first | rfl | (simp; omega), fun h => absurd h (by omega), fun ad e k hk => absurd hk (by omega)⟩, fun ad e => by injection e with e; rw [← e]; exact GB.out⟩, by omega, by omega, (fun x hx => by cases hx), HM.out.cur, HM.out.gr⟩
        · go_wp2
          go_ret
          exact ⟨_, _, _, _, rfl, ⟨NdIn.tail (NdIn.of_own Ho.out), fun ad e => by injection e with e; rw [← e]; exact GB.out⟩, by omega, by omega, (fun x hx => HS.out x (List.mem_of_mem_drop hx)), HM.out.cur, HM.out.gr⟩
      · have e2 : ((u : Int) == 2) = false := beq_eq_false_iff_ne.2 (by omega)
        by_cases h3 : u = 3
        · have e3 : ((u : Int) == 3) = true := by simp [h3]
          have c0 := own_even Ho.out (k := v) hv
          have c1 := own_odd Ho.out (k := v) hv
          obtain ⟨x, hx⟩ : ∃ x, x = Tr.l M v := ⟨_, rfl⟩
          obtain ⟨y, hy⟩ : ∃ y, y = Tr.d M v := ⟨_, rfl⟩
          have EB := Lib.hid (show Bd (x, y) by rw [hx, hy]; exact HS.out.at_ hv)
          rw [← hx] at c0
          rw [← hy] at c1
          clear hx hy
          have hsx := HM.out.size
          go_wp2_with (at_builtin; go_loud (refine append_node w3 rfl _ _ 43 rfl w.heap.size 55 i0 Try.underlying43 Hi.out hz0 hz1 hz2 (.slice (some ⟨gm, 0, none⟩) M.length cm) M.length M rfl Ho.out rfl x y rfl (by omega) hsx ?_); intro v' w6 hown hgrow)
          have hg6 := Kit.grown_own HM.out.gr (Nat.le_refl _) Ho.out hgrow
          have hc6 := (HM.out.cur.alloc (.cells #[.int .i64 x, .int .i64 y] 55)).kept hgrow (fun j hj => by have := (Ho.out.lt j hj).1; omega)
          obtain ⟨A6, c6, rfl⟩ := own_slice hown
          go_wp2
          go_ret
          exact ⟨_, _, _, _, rfl, NdAt.of_own hown, own_cap hown, by simp; omega, HS.out.app EB.out, hc6, hg6⟩
        · have e3 : ((u : Int) == 3) = false := beq_eq_false_iff_ne.2 (by omega)
          go_wp2
          go_ret
          exact ⟨_, _, _, _, rfl, NdAt.of_own Ho.out, own_cap Ho.out, by omega, HS.out, HM.out.cur, HM.out.gr⟩

end Go.Proofs.Ytlndaflhlkbedaa

/- Contracts (DrBm). -/
namespace Go.Proofs.Ytlndaflhlkbedaa
open Go.RowKit
set_option linter.unusedVariables false

set_option maxHeartbeats 3200000 in
set_option maxRecDepth 100000 in
theorem l8DrawBestMap_ex (w : World) (k : Code) (hcode : CodeIn w w.heap.size k.a k.cs) (hlen : k.cs.length ≤ 1048576) :
    Calls Try.prog 34 #[.slice k.a k.cs.length k.cap] w (DrawT3 w) := by
  obtain ⟨wz, hwz⟩ : ∃ wz, wz = w.alloc (.cells #[.slice none 0 0, .slice none 0 0, .slice none 0 0] 27) := ⟨_, rfl⟩
  obtain ⟨s, hs⟩ : ∃ s, s = w.heap.size := ⟨_, rfl⟩
  have hbz : Below w.heap.size w wz := by rw [hwz]; exact (Below.refl _ _).alloc (Nat.le_refl _) _
  have zz : wz.heap.size = s + 1 := by rw [hwz, hs]; simp
  have HX := Lib.hid (show Box3 wz s (.slice none 0 0) (.slice none 0 0) (.slice none 0 0) by rw [hwz, hs]; exact Box3.made _ _ _ _ _)
  have HF := Lib.hid (show ∀ off, wz.frozen? ⟨s, off, none⟩ = false by rw [hwz, hs]; exact fun off => by simp)
  have HC := Lib.hid (CodeIn.onto hcode hbz hbz.size)
  have HBZ := Lib.hid (show Below s w wz by rw [hs]; exact hbz)
  have HS := Lib.hid hs
  have HZ := Lib.hid zz
  have HW := Lib.hid hwz
  clear hcode hbz hs zz hwz
  go_enter Try.func34, Try.ntmps34
  go_wp2_with fail
  rw [← HW.out, ← HS.out]
  refine (l1New_ex _ k HC.out hlen).mono ?_
  rintro e w1 ⟨rfl, c, g1⟩
  have HX := Lib.hid (HX.out.grown g1 (by have := HZ.out; omega) (fun b e => by cases e))
  have HF := Lib.hid (free_kept g1 (by have := HZ.out; omega) (fun b e => by cases e) HF.out)
  have HB := Lib.hid (HBZ.out.trans ((Below.refl _ _).grown g1 (by have := HZ.out; omega) (fun b e => by cases e)))
  have l1 := g1.size
  have HQ := Lib.hid c
  have hsz : s < wz.heap.size := by have := HZ.out; omega
  clear c g1
  go_wp2_with fail
  refine (l8Draw_ex w1 _ k 9 (by decide) HQ.out).mono ?_
  rintro e w2 ⟨xs, ys, A, A', n, n', cp, cp', h0, h2, c0, c2, A1, n1, q1, K, rfl, ha, hb, hcp, hcp', hn, hn', hn1, hk, g, _, ⟨e0, e1, e2⟩, ea, eb⟩
  have HX := Lib.hid (HX.out.grown g (by omega) (fun b e => by injection e with e; omega))
  have HF := Lib.hid (free_kept g (by omega) (fun b e => by injection e with e; omega) HF.out)
  have HB := Lib.hid (HB.out.trans (Kit.below_of_grown g (fun b e => by injection e with e; omega) (by omega)))
  have l2 := g.size
  obtain ⟨w3, hw3⟩ : ∃ w3, w3 = w2.alloc (.cells #[.slice (some ⟨h0, 0, none⟩) 6 c0, .slice A1 n1 q1, .slice (some ⟨h2, 0, none⟩) 36 c2] 27) := ⟨_, rfl⟩
  have z3 : w3.heap.size = w2.heap.size + 1 := by rw [hw3]; simp
  have ga : w2.grownBy w3 none := by rw [hw3]; exact Kit.grown_alloc _ _ _
  obtain ⟨b0, b1, b2⟩ := (show Box3 w3 w2.heap.size (.slice (some ⟨h0, 0, none⟩) 6 c0) (.slice A1 n1 q1) (.slice (some ⟨h2, 0, none⟩) 36 c2) by rw [hw3]; exact Box3.made _ _ _ _ _)
  obtain ⟨x0, x1, x2⟩ := HX.out.grown ga (by omega) (fun b e => by cases e)
  have HF3 := Lib.hid (free_kept ga (by omega) (fun b e => by cases e) HF.out)
  have y0 := HF3.out 0
  have y1 := HF3.out 1
  have y2 := HF3.out 2
  have HB := Lib.hid (HB.out.trans ((Below.refl _ _).grown ga (by omega) (fun b e => by cases e)))
  have ND := Lib.hid (And.intro ha (And.intro hb (And.intro hk (And.intro e0 (And.intro e1 (And.intro e2 (And.intro ea eb)))))))
  have GA := Lib.hid ga
  have hne : w2.heap.size ≠ s := by omega
  have hne' : s ≠ w2.heap.size := by omega
  rw [hw3] at b0 b1 b2 x0 x1 x2 y0 y1 y2
  have HW3 := Lib.hid hw3
  clear ha hb hk g ga hw3 e0 e1 e2 ea eb
  go_wp2_with fail
  rw [← HW3.out]
  rw [← HW3.out] at b0 b1 b2 x0 x1 x2 y0 y1 y2
  go_still_tail 5, (by kernel_rfl)
  change wpList _ _ _ _ _ w3.drew
  go_wp2
  (try simp only [Exit.inBlock, Exit.then])
  refine bodyPost_ret (v := .tuple #[.slice A n cp, .slice A' n' cp', .agg #[.slice (some ⟨h0, 0, none⟩) 6 c0, .slice A1 n1 q1, .slice (some ⟨h2, 0, none⟩) 36 c2]]) ?_ rfl ?_
  · rw [results_two_cell rfl]
    go_simp
  · obtain ⟨ha, hb, ⟨k0, k1, k2⟩, e0, e1, e2, ea, eb⟩ := ND.out
    have gS : ∀ u0 u1 u2, w3.drew.grownBy (((w3.drew.setCell ⟨s, 0, none⟩ u0).setCell ⟨s, 1, none⟩ u1).setCell ⟨s, 2, none⟩ u2) (some s) := fun u0 u1 u2 => Kit.grown_then_set (Kit.grown_then_set (Kit.grown_set _ _ _ _) _ _) _ _
    have dr : w2.grownBy w3.drew none := grown_drewN GA.out 1
    have hlo : s < w1.heap.size := by omega
    have r1 : ∀ b, (none : Option Nat) = some b → b < w1.heap.size := fun b e => by cases e
    have r2 : ∀ b, some s = some b → b < w1.heap.size := fun b e => by injection e with e; omega
    have f0 : ∀ ad, (some ⟨h0, 0, none⟩ : Option Addr) = some ad → w1.heap.size ≤ ad.block := fun ad e => by injection e with e; rw [← e]; exact e0
    have f2 : ∀ ad, (some ⟨h2, 0, none⟩ : Option Addr) = some ad → w1.heap.size ≤ ad.block := fun ad e => by injection e with e; rw [← e]; exact e2
    have kA := (ha.keepLo ea dr r1).keepLo ea (gS (.slice (some ⟨h0, 0, none⟩) 6 c0) (.slice A1 n1 q1) (.slice (some ⟨h2, 0, none⟩) 36 c2)) r2
    have kB := (hb.keepLo eb dr r1).keepLo eb (gS (.slice (some ⟨h0, 0, none⟩) 6 c0) (.slice A1 n1 q1) (.slice (some ⟨h2, 0, none⟩) 36 c2)) r2
    have K0 := (k0.keepLo f0 dr r1).keepLo f0 (gS (.slice (some ⟨h0, 0, none⟩) 6 c0) (.slice A1 n1 q1) (.slice (some ⟨h2, 0, none⟩) 36 c2)) r2
    have K1 := (k1.keepLo e1 dr r1).keepLo e1 (gS (.slice (some ⟨h0, 0, none⟩) 6 c0) (.slice A1 n1 q1) (.slice (some ⟨h2, 0, none⟩) 36 c2)) r2
    have K2 := (k2.keepLo f2 dr r1).keepLo f2 (gS (.slice (some ⟨h0, 0, none⟩) 6 c0) (.slice A1 n1 q1) (.slice (some ⟨h2, 0, none⟩) 36 c2)) r2
    have BB := (Drawn.below HB.out (Drawn.refl w3).drew).trans (Kit.below_of_grown (gS (.slice (some ⟨h0, 0, none⟩) 6 c0) (.slice A1 n1 q1) (.slice (some ⟨h2, 0, none⟩) 36 c2)) (fun b e => by injection e with e; omega) (by show s ≤ w3.heap.size; omega))
    exact ⟨xs, ys, _, _, _, _, _, _, _, _, _, _, _, _, _, K, rfl, kA, kB, hcp, hcp', hn, hn', hn1, ⟨K0, K1, K2⟩, by rw [← HS.out]; exact BB⟩

end Go.Proofs.Ytlndaflhlkbedaa

/- Contracts (DrMb). -/
namespace Go.Proofs.Ytlndaflhlkbedaa
open Go.RowKit
set_option linter.unusedVariables false

theorem results_two_cell_one {fn : Func} {p u v x : Tmp} {ty : TypeId} (h : fn.results = #[.tmp u, .tmp v, .cell p ty, .tmp x]) (tmps : Array Value) (P : Program) (w : World) :
    (results fn tmps).run P w =
      ((asAddr (tmps.getD p undef)).run P w).andThen fun a w₁ => ((loadVar ty a).run P w₁).andThen fun y w₂ => .ok (.tuple #[tmps.getD u undef, tmps.getD v undef, y, tmps.getD x undef]) w₂ := by
  simp only [results, h]
  simp [Sem.run_bind, Result.andThen]
/-- two trees, a cost and a mapping, drawn -/
def DrawMC (w : World) (B : Nat) (e : Ending) (w' : World) : Prop :=
  ∃ (xs ys M : Tr) (A A' A'' : Option Addr) (n n' n'' cp cp' cp'' h0 h2 c0 c2 : Nat) (A1 : Option Addr) (n1 q1 : Nat) (K : Co), e = .returned (.tuple #[.slice A n cp, .slice A' n' cp', .agg #[.slice (some ⟨h0, 0, none⟩) 6 c0, .slice A1 n1 q1, .slice (some ⟨h2, 0, none⟩) 36 c2], .slice A'' n'' cp'']) ∧
    NdAt w' w.heap.size A n xs ∧ NdAt w' w.heap.size A' n' ys ∧ n ≤ cp ∧ n' ≤ cp' ∧ n ≤ 31 ∧ n' ≤ 31 ∧ (n1 = 6 ∨ n1 = 5) ∧ CoIn w' w'.heap.size (some ⟨h0, 0, none⟩) A1 (some ⟨h2, 0, none⟩) 6 n1 36 K ∧ (w.heap.size ≤ h0 ∧ (∀ ad, A1 = some ad → w.heap.size ≤ ad.block) ∧ w.heap.size ≤ h2) ∧ NdAt w' w.heap.size A'' n'' M ∧ n'' ≤ cp'' ∧ n'' ≤ 33 ∧ Smz M ∧ w.grownBy w' (some B)
set_option maxHeartbeats 3200000 in
set_option maxRecDepth 100000 in
theorem l10Draw_ex (w : World) (B : Nat) (k : Code) (c : CurX w B k) :
    Calls Try.prog 101 #[.pointer (some ⟨B, 0, none⟩)] w (DrawMC w B) := by
  have hBB := c.lt
  obtain ⟨wz, hwz⟩ : ∃ wz, wz = w.alloc (.cells #[.slice none 0 0, .slice none 0 0, .slice none 0 0] 27) := ⟨_, rfl⟩
  obtain ⟨s, hs⟩ : ∃ s, s = w.heap.size := ⟨_, rfl⟩
  have zz : wz.heap.size = s + 1 := by rw [hwz, hs]; simp
  have HX := Lib.hid (show Box3 wz s (.slice none 0 0) (.slice none 0 0) (.slice none 0 0) by rw [hwz, hs]; exact Box3.made _ _ _ _ _)
  have HF := Lib.hid (show ∀ off, wz.frozen? ⟨s, off, none⟩ = false by rw [hwz, hs]; exact fun off => by simp)
  have HQ := Lib.hid (show CurX wz B k by rw [hwz]; exact c.alloc _)
  have GB := Lib.hid (show w.grownBy wz (some B) by rw [hwz]; exact Kit.grown_alloc w _ (some B))
  have HS := Lib.hid hs
  have HZ := Lib.hid (show wz.heap.size = s + 1 ∧ B < s ∧ s = w.heap.size from ⟨zz, by omega, hs⟩)
  have HW := Lib.hid hwz
  have GS := Lib.hid (show ∀ (wv : World) u0 u1 u2, wv.grownBy (((wv.setCell ⟨s, 0, none⟩ u0).setCell ⟨s, 1, none⟩ u1).setCell ⟨s, 2, none⟩ u2) (some s) from fun wv u0 u1 u2 => Kit.grown_then_set (Kit.grown_then_set (Kit.grown_set _ _ _ _) _ _) _ _)
  clear c hs zz hwz hBB
  go_enter Try.func101, Try.ntmps101
  go_wp2_with fail
  rw [← HW.out, ← HS.out]
  refine (l8Draw_ex wz B k 8 (by decide) HQ.out).mono ?_
  rintro e w2 ⟨xs, ys, A, A', n, n', cp, cp', h0, h2, c0, c2, A1, n1, q1, K, rfl, ha, hb, hcp, hcp', hn, hn', hn1, hk, g, cx, ⟨e0, e1, e2⟩, ea, eb⟩
  have HX := Lib.hid (HX.out.grown g (by have := HZ.out; omega) (fun b e => by injection e with e; have := HZ.out; omega))
  have HF := Lib.hid (free_kept g (by have := HZ.out; omega) (fun b e => by injection e with e; have := HZ.out; omega) HF.out)
  have GB := Lib.hid (Kit.grown_trans GB.out g)
  have l2 := g.size
  obtain ⟨w3, hw3⟩ : ∃ w3, w3 = w2.alloc (.cells #[.slice (some ⟨h0, 0, none⟩) 6 c0, .slice A1 n1 q1, .slice (some ⟨h2, 0, none⟩) 36 c2] 27) := ⟨_, rfl⟩
  have z3 : w3.heap.size = w2.heap.size + 1 := by rw [hw3]; simp
  have ga : w2.grownBy w3 none := by rw [hw3]; exact Kit.grown_alloc _ _ _
  have bx := show Box3 w3 w2.heap.size (.slice (some ⟨h0, 0, none⟩) 6 c0) (.slice A1 n1 q1) (.slice (some ⟨h2, 0, none⟩) 36 c2) by rw [hw3]; exact Box3.made _ _ _ _ _
  have cx3 : CurX w3 B k := by rw [hw3]; exact cx.alloc _
  obtain ⟨b0, b1, b2⟩ := bx
  have HW3 := Lib.hid hw3
  have ND := Lib.hid (show n ≤ cp ∧ n' ≤ cp' ∧ (n1 = 6 ∨ n1 = 5) from ⟨hcp, hcp', hn1⟩)
  rw [hw3] at b0 b1 b2
  clear hcp hcp' hn1 hw3
  go_wp2_with fail
  rw [← HW3.out]
  rw [← HW3.out] at b0 b1 b2
  obtain ⟨wn, hwn⟩ : ∃ x, x = w3.drew := ⟨_, rfl⟩
  have dn : w2.grownBy wn none := by rw [hwn]; exact grown_drewN ga 1
  have dnB : w2.grownBy wn (some B) := by rw [hwn]; exact grown_drewN (r := some B) ⟨ga.os, ga.tape, ga.output, ga.size, fun b hb _ => ga.block b hb (fun e => by cases e)⟩ 1
  have HX := Lib.hid (HX.out.grown dn (by have := HZ.out; omega) (fun b e => by cases e))
  have HF := Lib.hid (free_kept dn (by have := HZ.out; omega) (fun b e => by cases e) HF.out)
  have GB := Lib.hid (Kit.grown_trans GB.out dnB)
  have n0 : ∀ b, (none : Option Nat) = some b → b < wz.heap.size := fun b e => by cases e
  have Q1 := Lib.hid (show NdAt wn wz.heap.size A n xs ∧ NdAt wn wz.heap.size A' n' ys ∧ CurX wn B k from ⟨NdAt.cur ⟨ha, ea⟩ (by have := HZ.out; omega) dnB, NdAt.cur ⟨hb, eb⟩ (by have := HZ.out; omega) dnB, by rw [hwn]; exact cx3.kept (Kit.grown_drewN w3 1 none) (fun b e => by cases e)⟩)
  have QK := Lib.hid (show CoIn wn wn.heap.size (some ⟨h0, 0, none⟩) A1 (some ⟨h2, 0, none⟩) 6 n1 36 K ∧ wz.heap.size ≤ h0 ∧ (∀ ad, A1 = some ad → wz.heap.size ≤ ad.block) ∧ wz.heap.size ≤ h2 from ⟨⟨hk.1.keepLo (fun ad e => by injection e with e; rw [← e]; exact e0) dn n0, hk.2.1.keepLo e1 dn n0, hk.2.2.keepLo (fun ad e => by injection e with e; rw [← e]; exact e2) dn n0⟩, e0, e1, e2⟩)
  have ZN := Lib.hid (show wn.heap.size = w2.heap.size + 1 ∧ wz.heap.size ≤ w2.heap.size from ⟨by rw [hwn]; exact z3, l2⟩)
  have HD := Lib.hid (show Box3 wn w2.heap.size (.slice (some ⟨h0, 0, none⟩) 6 c0) (.slice A1 n1 q1) (.slice (some ⟨h2, 0, none⟩) 36 c2) from by rw [hwn]; exact ⟨b0, b1, b2⟩)
  clear ha hb hk g cx e0 e1 e2 ea eb ga cx3 b0 b1 b2 dn dnB z3 l2 n0
  refine wp_region_held_drew (S := fun wq => wq.cell? ⟨w2.heap.size, 0, none⟩ = some (.slice (some ⟨h0, 0, none⟩) 6 c0) ∧ wq.cell? ⟨w2.heap.size, 1, none⟩ = some (.slice A1 n1 q1) ∧ wq.cell? ⟨w2.heap.size, 2, none⟩ = some (.slice (some ⟨h2, 0, none⟩) 36 c2)) (by kernel_rfl) (by rw [← hwn]; exact HD.out) (fun hHeld => ?_)
  rw [← hwn] at hHeld ⊢
  clear hwn
  refine rg_take (i := 0) (v := ?_) rfl (by kernel_rfl) (by kernel_rfl) (by kernel_rfl) (fun _ _ _ h => h) (by rfl) ?_ (by assumption) ?_
  rotate_left
  · intro w hSw
    (try dsimp only at hSw)
    go_simp
    (try with_reducible rfl)
  (try simp only [Act.put, List.setIfInBounds_toArray, List.set_cons_zero, List.set_cons_succ])
  refine rg_take (i := 1) (v := ?_) rfl (by kernel_rfl) (by kernel_rfl) (by kernel_rfl) (fun _ _ _ h => h) (by rfl) ?_ (by assumption) ?_
  rotate_left
  · intro w hSw
    (try dsimp only at hSw)
    go_simp
    (try with_reducible rfl)
  (try simp only [Act.put, List.setIfInBounds_toArray, List.set_cons_zero, List.set_cons_succ])
  refine rg_take (i := 2) (v := ?_) rfl (by kernel_rfl) (by kernel_rfl) (by kernel_rfl) (fun _ _ _ h => h) (by rfl) ?_ (by assumption) ?_
  rotate_left
  · intro w hSw
    (try dsimp only at hSw)
    go_simp
    (try with_reducible rfl)
  (try simp only [Act.put, List.setIfInBounds_toArray, List.set_cons_zero, List.set_cons_succ])
  refine rg_take (i := 3) (v := ?_) rfl (by kernel_rfl) (by kernel_rfl) (by kernel_rfl) (fun _ _ _ h => h) (by rfl) ?_ (by assumption) ?_
  rotate_left
  · intro w hSw
    (try dsimp only at hSw)
    go_simp
    (try with_reducible rfl)
  (try simp only [Act.put, List.setIfInBounds_toArray, List.set_cons_zero, List.set_cons_succ])
  refine rg_take (i := 4) (v := ?_) rfl (by kernel_rfl) (by kernel_rfl) (by kernel_rfl) (fun _ _ _ h => h) (by rfl) ?_ (by assumption) ?_
  rotate_left
  · intro w hSw
    (try dsimp only at hSw)
    go_simp
    (try with_reducible rfl)
  (try simp only [Act.put, List.setIfInBounds_toArray, List.set_cons_zero, List.set_cons_succ])
  refine rg_take (i := 5) (v := ?_) rfl (by kernel_rfl) (by kernel_rfl) (by kernel_rfl) (fun _ _ _ h => h) (by rfl) ?_ (by assumption) ?_
  rotate_left
  · intro w hSw
    (try dsimp only at hSw)
    go_simp
    (try with_reducible rfl)
  (try simp only [Act.put, List.setIfInBounds_toArray, List.set_cons_zero, List.set_cons_succ])
  refine wpAnyH_ready (rs := [6]) (by kernel_rfl) (by simp) ?_
  refine AllReadyH.cons rfl (fun K hK => ?_) ?_
  · go_simp
    go_at_call 136
    refine (l10Any_ex wn B k A A' n n' cp cp' xs ys hn hn' wz.heap.size Q1.out.1 Q1.out.2.1 (by have := HZ.out; omega) Q1.out.2.2).mono ?_
    rintro e w4 ⟨M, A2, m2, cp2, rfl, hM, hm2, hm33, hsm, -, g4⟩
    have HM := Lib.hid (And.intro hM (And.intro hm2 (And.intro hm33 hsm)))
    have G4 := Lib.hid g4
    have HX := Lib.hid (HX.out.grown g4 (by have := ZN.out; have := HZ.out; omega) (fun b e => by injection e with e; have := HZ.out; omega))
    have HF := Lib.hid (free_kept g4 (by have := ZN.out; have := HZ.out; omega) (fun b e => by injection e with e; have := HZ.out; omega) HF.out)
    have HD := Lib.hid (HD.out.grown g4 (by have := ZN.out; omega) (fun b e => by injection e with e; have := ZN.out; have := HZ.out; omega))
    clear hM hm2 hm33 hsm g4
    go_wp2_with fail
    refine hK.out _ _ HD.out (fun hHeld => ?_)
    clear hK K
    (try simp only [Act.put, List.setIfInBounds_toArray, List.set_cons_zero, List.set_cons_succ])
    refine rg_take (i := 7) (v := ?_) rfl (by kernel_rfl) (by kernel_rfl) (by kernel_rfl) (fun _ _ _ h => h) (by rfl) ?_ (by assumption) ?_
    rotate_left
    · intro w hSw
      (try dsimp only at hSw)
      go_simp
      (try with_reducible rfl)
    (try simp only [Act.put, List.setIfInBounds_toArray, List.set_cons_zero, List.set_cons_succ])
    refine rg_take (i := 8) (v := ?_) rfl (by kernel_rfl) (by kernel_rfl) (by kernel_rfl) (fun _ _ _ h => h) (by rfl) ?_ (by assumption) ?_
    rotate_left
    · intro w hSw
      (try dsimp only at hSw)
      go_simp
      (try with_reducible rfl)
    (try simp only [Act.put, List.setIfInBounds_toArray, List.set_cons_zero, List.set_cons_succ])
    refine wpAnyH_ready (rs := [9]) (by kernel_rfl) (by simp) ?_
    refine AllReadyH.cons rfl (fun K hK => ?_) ?_
    · obtain ⟨x0, x1, x2⟩ := HX.out
      have y0 := HF.out 0
      have y1 := HF.out 1
      have y2 := HF.out 2
      go_simp
      clear x0 x1 x2 y0 y1 y2
      refine hK.out _ _ (HD.out.grown (show w4.grownBy (((w4.setCell ⟨s, 0, none⟩ (.slice (some ⟨h0, 0, none⟩) 6 c0)).setCell ⟨s, 1, none⟩ (.slice A1 n1 q1)).setCell ⟨s, 2, none⟩ (.slice (some ⟨h2, 0, none⟩) 36 c2)) (some s) from GS.out w4 _ _ _) (by have := G4.out.size; have := ZN.out; omega) (fun b e => by injection e with e; have := ZN.out; have := HZ.out; omega)) (fun hHeld => ?_)
      clear hK K
      (try simp only [Act.put, List.setIfInBounds_toArray, List.set_cons_zero, List.set_cons_succ])
      refine rg_take (i := 10) (v := ?_) rfl (by kernel_rfl) (by kernel_rfl) (by kernel_rfl) (fun _ _ _ h => h) (by rfl) ?_ (by assumption) ?_
      rotate_left
      · intro w hSw
        (try dsimp only at hSw)
        go_simp
        (try with_reducible rfl)
      (try simp only [Act.put, List.setIfInBounds_toArray, List.set_cons_zero, List.set_cons_succ])
      refine wpAnyH_done (by kernel_rfl) ?_ _
      clear hHeld
      go_wp2
      (try simp only [Exit.inBlock, Exit.then])
      refine bodyPost_ret (v := .tuple #[.slice A n cp, .slice A' n' cp', .agg #[.slice (some ⟨h0, 0, none⟩) 6 c0, .slice A1 n1 q1, .slice (some ⟨h2, 0, none⟩) 36 c2], .slice A2 m2 cp2]) ?_ rfl ?_
      · rw [results_two_cell_one rfl]
        obtain ⟨x0, x1, x2⟩ := HX.out
        go_simp
      · obtain ⟨⟨k0, k1, k2⟩, e0, e1, e2⟩ := QK.out
        obtain ⟨hM, hm2, hm33, hsm⟩ := HM.out
        obtain ⟨l1, l2, l3⟩ := HZ.out
        have zn := ZN.out
        have gS := GS.out w4 (.slice (some ⟨h0, 0, none⟩) 6 c0) (.slice A1 n1 q1) (.slice (some ⟨h2, 0, none⟩) 36 c2)
        have f0 : ∀ ad, (some ⟨h0, 0, none⟩ : Option Addr) = some ad → wz.heap.size ≤ ad.block := fun ad e => by injection e with e; rw [← e]; exact e0
        have f2 : ∀ ad, (some ⟨h2, 0, none⟩ : Option Addr) = some ad → wz.heap.size ≤ ad.block := fun ad e => by injection e with e; rw [← e]; exact e2
        have r1 : ∀ b, some B = some b → b < wz.heap.size := fun b e => by injection e with e; omega
        have r2 : ∀ b, some s = some b → b < wz.heap.size := fun b e => by injection e with e; omega
        have sw : w.heap.size ≤ wz.heap.size := by omega
        have ndl : ∀ {A : Option Addr} {n : Nat} {xs : Tr} {wv : World} {lo : Nat}, w.heap.size ≤ lo → NdAt wv lo A n xs → NdAt wv w.heap.size A n xs := fun h0 h => ⟨h.1, fun ad e => Nat.le_trans h0 (h.2 ad e)⟩
        have kA := ndl sw ((Q1.out.1.cur (by omega) G4.out).cur (show s < wz.heap.size by omega) gS)
        have kB := ndl sw ((Q1.out.2.1.cur (by omega) G4.out).cur (show s < wz.heap.size by omega) gS)
        have kM := ndl (by omega) (hM.cur (show s < wn.heap.size by omega) gS)
        have K0 := (k0.keepLo f0 G4.out r1).keepLo f0 gS r2
        have K1 := (k1.keepLo e1 G4.out r1).keepLo e1 gS r2
        have K2 := (k2.keepLo f2 G4.out r1).keepLo f2 gS r2
        have hg := (Kit.grown_trans GB.out G4.out).andThen gS (fun b e => .inl (by injection e with e; omega))
        exact ⟨xs, ys, M, _, _, _, _, _, _, _, _, _, _, _, _, _, _, _, _, K, rfl, kA, kB, ND.out.1, ND.out.2.1, hn, hn', ND.out.2.2, ⟨K0, K1, K2⟩, ⟨by omega, fun ad e => Nat.le_trans sw (e1 ad e), by omega⟩, kM, hm2, hm33, hsm, hg⟩
    exact AllReadyH.nil
  exact AllReadyH.nil

end Go.Proofs.Ytlndaflhlkbedaa

/- Contracts (DrMc). -/
namespace Go.Proofs.Ytlndaflhlkbedaa
open Go.RowKit
set_option linter.unusedVariables false

/-- two trees, a cost and a mapping, drawn: the frame is the call's -/
def DrawT4 (w : World) (e : Ending) (w' : World) : Prop :=
  ∃ (xs ys M : Tr) (A A' A'' : Option Addr) (n n' n'' cp cp' cp'' h0 h2 c0 c2 : Nat) (A1 : Option Addr) (n1 q1 : Nat) (K : Co), e = .returned (.tuple #[.slice A n cp, .slice A' n' cp', .agg #[.slice (some ⟨h0, 0, none⟩) 6 c0, .slice A1 n1 q1, .slice (some ⟨h2, 0, none⟩) 36 c2], .slice A'' n'' cp'']) ∧
    NdIn w' w'.heap.size A n xs ∧ NdIn w' w'.heap.size A' n' ys ∧ n ≤ cp ∧ n' ≤ cp' ∧ n ≤ 31 ∧ n' ≤ 31 ∧ (n1 = 6 ∨ n1 = 5) ∧ CoIn w' w'.heap.size (some ⟨h0, 0, none⟩) A1 (some ⟨h2, 0, none⟩) 6 n1 36 K ∧ NdIn w' w'.heap.size A'' n'' M ∧ n'' ≤ cp'' ∧ n'' ≤ 33 ∧ Smz M ∧ Below w.heap.size w w'
set_option maxHeartbeats 3200000 in
set_option maxRecDepth 100000 in
theorem l10DrawMapCost_ex (w : World) (k : Code) (hcode : CodeIn w w.heap.size k.a k.cs) (hlen : k.cs.length ≤ 1048576) :
    Calls Try.prog 44 #[.slice k.a k.cs.length k.cap] w (DrawT4 w) := by
  obtain ⟨wz, hwz⟩ : ∃ wz, wz = w.alloc (.cells #[.slice none 0 0, .slice none 0 0, .slice none 0 0] 27) := ⟨_, rfl⟩
  obtain ⟨s, hs⟩ : ∃ s, s = w.heap.size := ⟨_, rfl⟩
  have hbz : Below w.heap.size w wz := by rw [hwz]; exact (Below.refl _ _).alloc (Nat.le_refl _) _
  have zz : wz.heap.size = s + 1 := by rw [hwz, hs]; simp
  have HX := Lib.hid (show Box3 wz s (.slice none 0 0) (.slice none 0 0) (.slice none 0 0) by rw [hwz, hs]; exact Box3.made _ _ _ _ _)
  have HF := Lib.hid (show ∀ off, wz.frozen? ⟨s, off, none⟩ = false by rw [hwz, hs]; exact fun off => by simp)
  have HC := Lib.hid (CodeIn.onto hcode hbz hbz.size)
  have HBZ := Lib.hid (show Below s w wz by rw [hs]; exact hbz)
  have HS := Lib.hid hs
  have HZ := Lib.hid zz
  have HW := Lib.hid hwz
  clear hcode hbz hs zz hwz
  go_enter Try.func44, Try.ntmps44
  go_wp2_with fail
  rw [← HW.out, ← HS.out]
  refine (l1New_ex _ k HC.out hlen).mono ?_
  rintro e w1 ⟨rfl, c, g1⟩
  have HX := Lib.hid (HX.out.grown g1 (by have := HZ.out; omega) (fun b e => by cases e))
  have HF := Lib.hid (free_kept g1 (by have := HZ.out; omega) (fun b e => by cases e) HF.out)
  have HB := Lib.hid (HBZ.out.trans ((Below.refl _ _).grown g1 (by have := HZ.out; omega) (fun b e => by cases e)))
  have l1 := g1.size
  have HQ := Lib.hid c
  have hsz : s < wz.heap.size := by have := HZ.out; omega
  clear c g1
  go_wp2_with fail
  refine (l10Draw_ex w1 _ k HQ.out).mono ?_
  rintro e w2 ⟨xs, ys, M, A, A', A'', n, n', n'', cp, cp', cp'', h0, h2, c0, c2, A1, n1, q1, K, rfl, ⟨ha, ea⟩, ⟨hb, eb⟩, hcp, hcp', hn, hn', hn1, hk, ⟨e0, e1, e2⟩, ⟨hm, em⟩, hcp'', hn'', hsm, g⟩
  have HX := Lib.hid (HX.out.grown g (by omega) (fun b e => by injection e with e; omega))
  have HF := Lib.hid (free_kept g (by omega) (fun b e => by injection e with e; omega) HF.out)
  have HB := Lib.hid (HB.out.trans (Kit.below_of_grown g (fun b e => by injection e with e; omega) (by omega)))
  have l2 := g.size
  obtain ⟨w3, hw3⟩ : ∃ w3, w3 = w2.alloc (.cells #[.slice (some ⟨h0, 0, none⟩) 6 c0, .slice A1 n1 q1, .slice (some ⟨h2, 0, none⟩) 36 c2] 27) := ⟨_, rfl⟩
  have z3 : w3.heap.size = w2.heap.size + 1 := by rw [hw3]; simp
  have ga : w2.grownBy w3 none := by rw [hw3]; exact Kit.grown_alloc _ _ _
  obtain ⟨b0, b1, b2⟩ := (show Box3 w3 w2.heap.size (.slice (some ⟨h0, 0, none⟩) 6 c0) (.slice A1 n1 q1) (.slice (some ⟨h2, 0, none⟩) 36 c2) by rw [hw3]; exact Box3.made _ _ _ _ _)
  obtain ⟨x0, x1, x2⟩ := HX.out.grown ga (by omega) (fun b e => by cases e)
  have HF3 := Lib.hid (free_kept ga (by omega) (fun b e => by cases e) HF.out)
  have y0 := HF3.out 0
  have y1 := HF3.out 1
  have y2 := HF3.out 2
  have HB := Lib.hid (HB.out.trans ((Below.refl _ _).grown ga (by omega) (fun b e => by cases e)))
  have ND := Lib.hid (And.intro ha (And.intro hb (And.intro hk (And.intro e0 (And.intro e1 (And.intro e2 (And.intro ea (And.intro eb (And.intro hm (And.intro em (And.intro hcp'' (And.intro hn'' hsm))))))))))))
  have GA := Lib.hid ga
  have hne : w2.heap.size ≠ s := by omega
  have hne' : s ≠ w2.heap.size := by omega
  rw [hw3] at b0 b1 b2 x0 x1 x2 y0 y1 y2
  have HW3 := Lib.hid hw3
  clear ha hb hk g ga hw3 e0 e1 e2 ea eb hm em hcp'' hn'' hsm
  go_wp2_with fail
  rw [← HW3.out]
  rw [← HW3.out] at b0 b1 b2 x0 x1 x2 y0 y1 y2
  obtain ⟨wn, hwn⟩ : ∃ x, x = w3.drew := ⟨_, rfl⟩
  have D0 : Drawn w3 wn := by rw [hwn]; exact (Drawn.refl w3).drew
  have HX := Lib.hid ((show Box3 w3 s (.slice none 0 0) (.slice none 0 0) (.slice none 0 0) from ⟨x0, x1, x2⟩).drawn D0)
  have HD := Lib.hid ((show Box3 w3 w2.heap.size (.slice (some ⟨h0, 0, none⟩) 6 c0) (.slice A1 n1 q1) (.slice (some ⟨h2, 0, none⟩) 36 c2) from ⟨b0, b1, b2⟩).drawn D0)
  have ZN := Lib.hid (show wn.heap.size = w2.heap.size + 1 by rw [hwn]; exact z3)
  have HF := Lib.hid (free_kept (grown_drawn (Kit.grown_refl w3 none) D0) (by omega) (fun b e => by cases e) HF3.out)
  have GN := Lib.hid (show w2.grownBy wn none by rw [hwn]; exact grown_drewN GA.out 1)
  have HB := Lib.hid (Drawn.below HB.out D0)
  have GS := Lib.hid (show ∀ (wv : World) u0 u1 u2, wv.grownBy (((wv.setCell ⟨s, 0, none⟩ u0).setCell ⟨s, 1, none⟩ u1).setCell ⟨s, 2, none⟩ u2) (some s) from fun wv u0 u1 u2 => Kit.grown_then_set (Kit.grown_then_set (Kit.grown_set _ _ _ _) _ _) _ _)
  have LL := Lib.hid (show s < w1.heap.size ∧ w1.heap.size ≤ w2.heap.size from ⟨by omega, l2⟩)
  clear x0 x1 x2 b0 b1 b2 y0 y1 y2 D0 HF3 z3
  refine wp_region_held_drew (S := fun wq => wq.cell? ⟨w2.heap.size, 0, none⟩ = some (.slice (some ⟨h0, 0, none⟩) 6 c0) ∧ wq.cell? ⟨w2.heap.size, 1, none⟩ = some (.slice A1 n1 q1) ∧ wq.cell? ⟨w2.heap.size, 2, none⟩ = some (.slice (some ⟨h2, 0, none⟩) 36 c2)) (by kernel_rfl) (by rw [← hwn]; exact HD.out) (fun hHeld => ?_)
  rw [← hwn] at hHeld ⊢
  clear hwn
  refine rg_take (i := 0) (v := ?_) rfl (by kernel_rfl) (by kernel_rfl) (by kernel_rfl) (fun _ _ _ h => h) (by rfl) ?_ (by assumption) ?_
  rotate_left
  · intro w hSw
    (try dsimp only at hSw)
    go_simp
    (try with_reducible rfl)
  (try simp only [Act.put, List.setIfInBounds_toArray, List.set_cons_zero, List.set_cons_succ])
  refine rg_take (i := 1) (v := ?_) rfl (by kernel_rfl) (by kernel_rfl) (by kernel_rfl) (fun _ _ _ h => h) (by rfl) ?_ (by assumption) ?_
  rotate_left
  · intro w hSw
    (try dsimp only at hSw)
    go_simp
    (try with_reducible rfl)
  (try simp only [Act.put, List.setIfInBounds_toArray, List.set_cons_zero, List.set_cons_succ])
  refine rg_take (i := 2) (v := ?_) rfl (by kernel_rfl) (by kernel_rfl) (by kernel_rfl) (fun _ _ _ h => h) (by rfl) ?_ (by assumption) ?_
  rotate_left
  · intro w hSw
    (try dsimp only at hSw)
    go_simp
    (try with_reducible rfl)
  (try simp only [Act.put, List.setIfInBounds_toArray, List.set_cons_zero, List.set_cons_succ])
  refine rg_take (i := 3) (v := ?_) rfl (by kernel_rfl) (by kernel_rfl) (by kernel_rfl) (fun _ _ _ h => h) (by rfl) ?_ (by assumption) ?_
  rotate_left
  · intro w hSw
    (try dsimp only at hSw)
    go_simp
    (try with_reducible rfl)
  (try simp only [Act.put, List.setIfInBounds_toArray, List.set_cons_zero, List.set_cons_succ])
  refine rg_take (i := 4) (v := ?_) rfl (by kernel_rfl) (by kernel_rfl) (by kernel_rfl) (fun _ _ _ h => h) (by rfl) ?_ (by assumption) ?_
  rotate_left
  · intro w hSw
    (try dsimp only at hSw)
    go_simp
    (try with_reducible rfl)
  (try simp only [Act.put, List.setIfInBounds_toArray, List.set_cons_zero, List.set_cons_succ])
  refine rg_take (i := 5) (v := ?_) rfl (by kernel_rfl) (by kernel_rfl) (by kernel_rfl) (fun _ _ _ h => h) (by rfl) ?_ (by assumption) ?_
  rotate_left
  · intro w hSw
    (try dsimp only at hSw)
    go_simp
    (try with_reducible rfl)
  (try simp only [Act.put, List.setIfInBounds_toArray, List.set_cons_zero, List.set_cons_succ])
  refine wpAnyH_ready (rs := [6]) (by kernel_rfl) (by simp) ?_
  refine AllReadyH.cons rfl (fun K hK => ?_) ?_
  · obtain ⟨x0, x1, x2⟩ := HX.out
    have y0 := HF.out 0
    have y1 := HF.out 1
    have y2 := HF.out 2
    go_simp
    clear x0 x1 x2 y0 y1 y2
    refine hK.out _ _ (HD.out.grown (GS.out wn _ _ _) (by have := ZN.out; omega) (fun b e => by injection e with e; have := LL.out; omega)) (fun hHeld => ?_)
    clear hK K
    (try simp only [Act.put, List.setIfInBounds_toArray, List.set_cons_zero, List.set_cons_succ])
    refine rg_take (i := 7) (v := ?_) rfl (by kernel_rfl) (by kernel_rfl) (by kernel_rfl) (fun _ _ _ h => h) (by rfl) ?_ (by assumption) ?_
    rotate_left
    · intro w hSw
      (try dsimp only at hSw)
      go_simp
      (try with_reducible rfl)
    (try simp only [Act.put, List.setIfInBounds_toArray, List.set_cons_zero, List.set_cons_succ])
    refine wpAnyH_done (by kernel_rfl) ?_ _
    clear hHeld
    go_wp2
    (try simp only [Exit.inBlock, Exit.then])
    refine bodyPost_ret (v := .tuple #[.slice A n cp, .slice A' n' cp', .agg #[.slice (some ⟨h0, 0, none⟩) 6 c0, .slice A1 n1 q1, .slice (some ⟨h2, 0, none⟩) 36 c2], .slice A'' n'' cp'']) ?_ rfl ?_
    · rw [results_two_cell_one rfl]
      obtain ⟨x0, x1, x2⟩ := HX.out
      go_simp
    · obtain ⟨ha, hb, ⟨k0, k1, k2⟩, e0, e1, e2, ea, eb, hm, em, hcp'', hn'', hsm⟩ := ND.out
      have gS := GS.out wn
      have dr := GN.out
      have hlo := LL.out.1
      have r1 : ∀ b, (none : Option Nat) = some b → b < w1.heap.size := fun b e => by cases e
      have r2 : ∀ b, some s = some b → b < w1.heap.size := fun b e => by injection e with e; omega
      have f0 : ∀ ad, (some ⟨h0, 0, none⟩ : Option Addr) = some ad → w1.heap.size ≤ ad.block := fun ad e => by injection e with e; rw [← e]; exact e0
      have f2 : ∀ ad, (some ⟨h2, 0, none⟩ : Option Addr) = some ad → w1.heap.size ≤ ad.block := fun ad e => by injection e with e; rw [← e]; exact e2
      have kA := (ha.keepLo ea dr r1).keepLo ea (gS (.slice (some ⟨h0, 0, none⟩) 6 c0) (.slice A1 n1 q1) (.slice (some ⟨h2, 0, none⟩) 36 c2)) r2
      have kB := (hb.keepLo eb dr r1).keepLo eb (gS (.slice (some ⟨h0, 0, none⟩) 6 c0) (.slice A1 n1 q1) (.slice (some ⟨h2, 0, none⟩) 36 c2)) r2
      have kM := (hm.keepLo em dr r1).keepLo em (gS (.slice (some ⟨h0, 0, none⟩) 6 c0) (.slice A1 n1 q1) (.slice (some ⟨h2, 0, none⟩) 36 c2)) r2
      have K0 := (k0.keepLo f0 dr r1).keepLo f0 (gS (.slice (some ⟨h0, 0, none⟩) 6 c0) (.slice A1 n1 q1) (.slice (some ⟨h2, 0, none⟩) 36 c2)) r2
      have K1 := (k1.keepLo e1 dr r1).keepLo e1 (gS (.slice (some ⟨h0, 0, none⟩) 6 c0) (.slice A1 n1 q1) (.slice (some ⟨h2, 0, none⟩) 36 c2)) r2
      have K2 := (k2.keepLo f2 dr r1).keepLo f2 (gS (.slice (some ⟨h0, 0, none⟩) 6 c0) (.slice A1 n1 q1) (.slice (some ⟨h2, 0, none⟩) 36 c2)) r2
      have BB := HB.out.trans (Kit.below_of_grown (gS (.slice (some ⟨h0, 0, none⟩) 6 c0) (.slice A1 n1 q1) (.slice (some ⟨h2, 0, none⟩) 36 c2)) (fun b e => by injection e with e; omega) (by have := ZN.out; have := LL.out; omega))
      exact ⟨xs, ys, M, _, _, _, _, _, _, _, _, _, _, _, _, _, _, _, _, K, rfl, kA, kB, hcp, hcp', hn, hn', hn1, ⟨K0, K1, K2⟩, kM, hcp'', hn'', hsm, by rw [← HS.out]; exact BB⟩
  exact AllReadyH.nil

end Go.Proofs.Ytlndaflhlkbedaa
