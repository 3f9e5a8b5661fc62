/- Texts of one claim laid into one file, in build order: NearD, NearE. -/
import Derived.Test.YtgkkeejhfofcaaaHd1
import Derived.Test.YtgkkeejhfofcaaaHd3
import Derived.Test.YtgkkeejhfofcaaaHd4
import Derived.Deep.RegionHeld3
import Derived.Outline
/- Contracts (NearD). -/
namespace Go.Proofs.Ytgkkeejhfofcaaa
open Go.RowKit
set_option linter.unusedVariables false

theorem grown_drewN {w w' : World} {r : Option Nat} (h : w.grownBy w' r) (n : Nat) : w.grownBy (w'.drewN n) r := ⟨h.os, h.tape, h.output, h.size, h.block⟩
theorem grown_drawn {w w1 w2 : World} {r : Option Nat} (h : w.grownBy w1 r) (hd : Drawn w1 w2) : w.grownBy w2 r := by obtain ⟨m, rfl⟩ := hd; exact grown_drewN h m
theorem CurX.drawn {w1 w2 : World} {B : Nat} {k : Code} (h : CurX w1 B k) (hd : Drawn w1 w2) : CurX w2 B k := by obtain ⟨m, rfl⟩ := hd; exact h.drewN m
set_option maxHeartbeats 800000 in
set_option maxRecDepth 100000 in
theorem l3Copy_ex (ad : Addr) (n c : Nat) (xs : Tr) (w : World) (h : NdIn w w.heap.size (some ad) n xs) (hn : n ≤ 1048576) :
    Calls Try.prog 54 #[.slice (some ad) n c] w fun e w' => ∃ A' c', e = .returned (.slice A' n c') ∧ w'.ownsRow w.heap.size 47 2 (.slice A' n c') n (Tr.cells xs) ∧ w.grownBy w' none := by
  have H := Lib.hid h
  clear h
  have HL := Lib.hid H.out.1
  obtain ⟨i0, hi, hz0, hz1, hz2⟩ := info_parts info_ndD
  go_enter Try.func54, Try.ntmps54
  go_wp2_with (at_builtin; refine wpList_append_own (World.alloc w (.cells #[] 47)) rfl _ _ 24 rfl w.heap.size 47 i0 (.agg #[.int .i64 0, .int .i64 0]) 2 16 Try.underlying24 hi hz0 hz1 hz2 rfl (by omega) (.slice (some ⟨w.heap.size, 0, none⟩) 0 0) 0 [] rfl (World.ownsRow_lit w #[] 0 (Nat.le_refl _) (Nat.zero_le _) rfl) ad n c (Tr.cells xs) rfl (by rw [Tr.cells_length, HL.out]) (NdIn.cells_at (H.out.to_below ((Below.refl _ _).alloc (Nat.le_refl _) _))) (Tr.cells_cell xs) (by unfold maxLen; omega) (by omega) (by simp) ?_; intro v' w1 hown1 hgrow1 hnil1)
  clear hnil1
  have hown2 : w1.ownsRow w.heap.size 47 2 v' n (Tr.cells xs) := by simpa using hown1
  obtain ⟨A', c', rfl⟩ := own_slice hown2
  have hg : w.grownBy w1 none := (Kit.grown_alloc w (.cells #[] 47) none).andThen hgrow1 (fun j hj => .inl (by simp [Value.ownBlock] at hj; omega))
  go_ret
  exact ⟨A', c', rfl, hown2, hg⟩
/-- the cursor and the slice under way -/
def NearG (B : Nat) (k : Code) (b0 : Nat) (A : Option Addr) (m cp : Nat) (ys : Tr) (w0 wq : World) : Prop := wq.ownsRow b0 47 2 (.slice A m cp) m (Tr.cells ys) ∧ CurX wq B k ∧ w0.grownBy wq (some B)
section
variable {B b0 m cp g2 : Nat} {k : Code} {ys : Tr} {w0 wx wq : World}
theorem near_own (h : NearG B k b0 (some ⟨g2, 0, none⟩) m cp ys w0 wx) : wx.ownsRow b0 47 2 (.slice (some ⟨g2, 0, none⟩) m cp) m (Tr.cells ys) := h.1
theorem near_cur (h : NearG B k b0 (some ⟨g2, 0, none⟩) m cp ys w0 wx) : CurX wx B k := h.2.1
theorem near_grow (h : NearG B k b0 (some ⟨g2, 0, none⟩) m cp ys w0 wx) : w0.grownBy wx (some B) := h.2.2
theorem near_keep0 (h : NearG B k b0 (some ⟨g2, 0, none⟩) m cp ys w0 wx) (g : wx.grownBy wq none) : NearG B k b0 (some ⟨g2, 0, none⟩) m cp ys w0 wq :=
  ⟨h.1.kept g (.inr fun e => by cases e), h.2.1.kept g (fun _ e => by cases e), h.2.2.andThen g (fun _ e => by cases e)⟩
theorem near_keepB (h : NearG B k b0 (some ⟨g2, 0, none⟩) m cp ys w0 wx) (hB : B < b0) (c : CurX wq B k) (g : wx.grownBy wq (some B)) : NearG B k b0 (some ⟨g2, 0, none⟩) m cp ys w0 wq := ⟨Kit.keptRow h.1 hB g, c, Kit.grown_trans h.2.2 g⟩
theorem near_grown (h : NearG B k b0 (some ⟨g2, 0, none⟩) m cp ys w0 wx) {r : Option Nat} (g : wx.grownBy wq r) (hr : ∀ b, r = some b → w0.heap.size ≤ b ∧ (Value.slice (some ⟨g2, 0, none⟩) m cp).ownBlock ≠ some b ∧ B < b) : NearG B k b0 (some ⟨g2, 0, none⟩) m cp ys w0 wq :=
  ⟨h.1.kept g (by cases r with | none => exact .inr (fun e => by cases e) | some b => exact .inr (fun e => (hr b rfl).2.1 e)), h.2.1.kept g (fun b e => (hr b e).2.2), h.2.2.andThen g (fun b e => .inl (hr b e).1)⟩
end
section
variable {B b0 m cp g2 o : Nat} {k : Code} {ys : Tr} {w0 wx wq : World} {u : Option Value}
theorem nearC_of (h : wx.cell? ⟨g2, o, none⟩ = u ∧ NearG B k b0 (some ⟨g2, 0, none⟩) m cp ys w0 wx) : NearG B k b0 (some ⟨g2, 0, none⟩) m cp ys w0 wx := h.2
theorem nearC_keep0 (h : wx.cell? ⟨g2, o, none⟩ = u ∧ NearG B k b0 (some ⟨g2, 0, none⟩) m cp ys w0 wx) (hB : B < g2) (g : wx.grownBy wq none) : wq.cell? ⟨g2, o, none⟩ = u ∧ NearG B k b0 (some ⟨g2, 0, none⟩) m cp ys w0 wq :=
  ⟨(World.cell?_of_block (g.block g2 (h.2.1.lt g2 rfl).2 (fun e => by cases e))).trans h.1, near_keep0 h.2 g⟩
theorem nearC_keepB (h : wx.cell? ⟨g2, o, none⟩ = u ∧ NearG B k b0 (some ⟨g2, 0, none⟩) m cp ys w0 wx) (hB : B < g2) (hB0 : B < b0) (c : CurX wq B k) (g : wx.grownBy wq (some B)) : wq.cell? ⟨g2, o, none⟩ = u ∧ NearG B k b0 (some ⟨g2, 0, none⟩) m cp ys w0 wq :=
  ⟨(World.cell?_of_block (g.block g2 (h.2.1.lt g2 rfl).2 (fun e => by injection e with e; omega))).trans h.1, near_keepB h.2 hB0 c g⟩
theorem nearC_grown (h : wx.cell? ⟨g2, o, none⟩ = u ∧ NearG B k b0 (some ⟨g2, 0, none⟩) m cp ys w0 wx) {r : Option Nat} (g : wx.grownBy wq r) (hr : ∀ b, r = some b → w0.heap.size ≤ b ∧ (Value.slice (some ⟨g2, 0, none⟩) m cp).ownBlock ≠ some b ∧ B < b) : wq.cell? ⟨g2, o, none⟩ = u ∧ NearG B k b0 (some ⟨g2, 0, none⟩) m cp ys w0 wq :=
  ⟨(World.cell?_of_block (g.block g2 (h.2.1.lt g2 rfl).2 (fun e => (hr g2 e.symm).2.1 rfl))).trans h.1, near_grown h.2 g hr⟩
end
theorem step_append_nodes {P : Program} {ops : Array Oper} {o : Oper} {a : Act} (w : World) {K : Act → World → Prop} {Q : Exit → Act → World → Prop} {E : Prop} (hgd : o.guard = none) (s x : Operand) (t : TypeId)
    (ho : o.op = .call { callee := .builtin .append, args := #[s, x], argTypes := #[t, t] })
    (base : Nat) (e : TypeId) (i : TypeInfo) (ht : P.underlying t = some (.slice e)) (hi : P.info? e = some i) (hz : i.zero = some (.agg #[.int .i64 0, .int .i64 0]))
    (hsize : i.size = 2) (hby : i.bytes = 16) (v : Value) (n m N : Nat) (l zs : Tr) (hs : a.eval s = v) (hown : w.ownsRow base e 2 v n (Tr.cells l))
    {B : Nat} (ad : Addr) (c : Nat) (hx : a.eval x = .slice (some ad) m c) (hin : NdIn w B (some ad) m zs) (hN : n + m = N)
    (h63 : N ≤ 1073741824) (hbase : base ≤ w.heap.size)
    (h : ∀ v' w', w'.ownsRow base e 2 v' N (Tr.cells (l ++ zs)) → w.grownBy w' v.ownBlock → K (a.put o.dst v') w') :
    if Region.wanted o (yielded ops a.tmps) = true then Oper.wp P o a w K Q else E := by
  have hw : Region.wanted o (yielded ops a.tmps) = true := by simp [Region.wanted, hgd]
  rw [if_pos hw]
  subst hN
  refine wp_append_own _ s x t ho base e i (.agg #[.int .i64 0, .int .i64 0]) 2 16 ht hi hz hsize hby rfl (by decide) v n (Tr.cells l) hs hown ad m c (Tr.cells zs) hx (by rw [Tr.cells_length, hin.1]) hin.cells_at (Tr.cells_cell _) (by unfold maxLen; omega) (by omega) hbase ?_
  intro v' w' h2 h3 _
  refine h v' w' ?_ h3
  rw [Tr.cells_append]
  exact h2
theorem NdIn.takeN {w : World} {B n r : Nat} {A : Option Addr} {xs : Tr} (h : NdIn w B A n xs) (hr : r ≤ n) : NdIn w B A r (xs.take r) := by
  refine ⟨by rw [List.length_take, h.1]; omega, fun hp => h.2.1 (by omega), fun ad e j hj => ?_⟩
  have := h.2.2 ad e j (by omega)
  have g : (xs.take r).getD j (0, 0) = xs.getD j (0, 0) := by rw [List.getD_eq_getElem?_getD, List.getD_eq_getElem?_getD, List.getElem?_take_of_lt hj]
  simp only [Tr.l, Tr.d] at this ⊢
  rw [g]
  exact this
theorem NdIn.dropN {w : World} {B n g r : Nat} {xs : Tr} (h : NdIn w B (some ⟨g, 0, none⟩) n xs) (hr : r ≤ n) : NdIn w B (some ⟨g, r * 2, none⟩) (n - r) (xs.drop r) := by
  refine ⟨by rw [List.length_drop, h.1], fun hp => ⟨_, rfl, ?_⟩, fun ad' e j hj => ?_⟩
  · obtain ⟨ad', e, hb⟩ := h.2.1 (by omega)
    obtain rfl : (⟨g, 0, none⟩ : Addr) = ad' := by injection e
    exact hb
  · obtain rfl : (⟨g, r * 2, none⟩ : Addr) = ad' := by injection e
    have hc := h.2.2 _ rfl (r + j) (by omega)
    have hg : (xs.drop r).getD j (0, 0) = xs.getD (r + j) (0, 0) := by simp [List.getD_eq_getElem?_getD]
    have e1 : (⟨g, r * 2, none⟩ : Addr) = (⟨g, 0, none⟩ : Addr).add (r * 2) := by unfold Addr.add; split <;> simp_all
    rw [e1, add_of_add, add_of_add, show r * 2 + j * 2 = (r + j) * 2 by omega, show r * 2 + (j * 2 + 1) = (r + j) * 2 + 1 by omega]
    simp only [Tr.l, Tr.d] at hc ⊢
    rw [hg]
    exact hc
end Go.Proofs.Ytgkkeejhfofcaaa

/- Contracts (NearE). -/
namespace Go.Proofs.Ytgkkeejhfofcaaa
open Go.RowKit
set_option linter.unusedVariables false

/-- as AnyD, a little longer -/
def AnyE (w : World) (B : Nat) (k : Code) (e : Ending) (w' : World) : Prop :=
  ∃ (xs : Tr) (A : Option Addr) (n cp : Nat), e = .returned (.slice A n cp) ∧ NdAt w' w.heap.size A n xs ∧ n ≤ cp ∧ n ≤ 34 ∧ CurX w' B k ∧ w.grownBy w' (some B)
set_option maxHeartbeats 800000 in
set_option maxRecDepth 100000 in
/-- a copy of nodes, wherever they lie -/
theorem l3Copy_all (A : Option Addr) (n c : Nat) (xs : Tr) (w : World) (h : NdIn w w.heap.size A n xs) (hn : n ≤ 1048576) :
    Calls Try.prog 54 #[.slice A n c] w fun e w' => ∃ A' c', e = .returned (.slice A' n c') ∧ w'.ownsRow w.heap.size 47 2 (.slice A' n c') n (Tr.cells xs) ∧ w.grownBy w' none := by
  cases A with
  | some ad => exact l3Copy_ex ad n c xs w h hn
  | none =>
    rcases Nat.eq_zero_or_pos n with rfl | h0
    · have hx : xs = [] := List.eq_nil_of_length_eq_zero h.1
      subst hx
      clear h
      go_enter Try.func54, Try.ntmps54
      go_wp2
      go_ret
      exact ⟨some ⟨w.heap.size, 0, none⟩, 0, rfl, World.ownsRow_lit w #[] 0 (Nat.le_refl _) (Nat.zero_le _) rfl, Kit.grown_alloc w _ none⟩
    · obtain ⟨_, e, _⟩ := h.2.1 h0
      cases e
set_option maxHeartbeats 3200000 in
set_option maxRecDepth 100000 in
theorem l3NearE_ex (w : World) (B : Nat) (k : Code) (A : Option Addr) (n cp : Nat) (xs : Tr) (h : NdIn w w.heap.size A n xs) (hn : n ≤ 31) (c : CurX w B k) :
    Calls Try.prog 53 #[.pointer (some ⟨B, 0, none⟩), .slice A n cp] w (AnyE w B k) := by
  have H := Lib.hid h
  have HC := Lib.hid c
  have hBB := c.lt
  have HG := Lib.hid (Kit.grown_refl w (some B))
  clear c h
  obtain ⟨i0, hi, hz0, hz1, hz2⟩ := info_parts info_ndD
  have Hi := Lib.hid hi
  clear hi
  go_enter Try.func53, Try.ntmps53
  go_wp2_with fail
  refine (l3Copy_all A n cp xs w H.out (by omega)).mono ?_
  rintro e w1 ⟨A1, c1, rfl, ho, g⟩
  have HC := Lib.hid (HC.out.kept g (fun _ h => by cases h))
  have HG := Lib.hid (HG.out.andThen g (fun _ h => by cases h))
  have Ho := Lib.hid ho
  have HX := Lib.hid H.out.1
  clear ho g
  go_wp2_with fail
  refine (l1Below_ex _ B k 3 HC.out).mono ?_
  rintro e w2 ⟨q, rfl, hq, c, g⟩
  have HC := Lib.hid c
  have HG := Lib.hid (Kit.grown_trans HG.out g)
  have Ho := Lib.hid (Kit.keptRow Ho.out hBB g)
  clear c g
  have hq' : q < 3 := by omega
  go_wp2
  go_loopw [5, 6] (fun lv jv wr => ∃ (ys : Tr) (m j : Nat), ys.length = m ∧ wr.ownsRow w.heap.size 47 2 lv m (Tr.cells ys) ∧ jv = .int .i64 j ∧ m + j ≤ 34 ∧ j ≤ 3 ∧ CurX wr B k ∧ w.grownBy wr (some B)) (fun _ jv _ => (intOf jv).toNat)
  case atStart => exact ⟨xs, n, q + 1, HX.out, Ho.out, by go_num, by omega, by omega, HC.out, HG.out⟩
  case round =>
    clear Ho HC HG
    obtain ⟨ys, m, j, hym, hown, rfl, hmj, hj3, hc, hg⟩ := hrel
    have Ho := Lib.hid hown
    have HC := Lib.hid hc
    have HG := Lib.hid hg
    have HM := Lib.hid hym
    clear hown hc hg hym
    obtain ⟨A2, c2, rfl⟩ := own_slice Ho.out
    by_cases hj0 : j = 0
    · subst hj0
      go_wp2_with fail
      refine (specTreeOk_any _ _ _ ys _ (NdIn.of_own Ho.out) (by omega)).mono ?_
      rintro e w5 ⟨rfl, hd⟩
      have HC := Lib.hid (HC.out.drawn hd)
      have HG := Lib.hid (grown_drawn HG.out hd)
      have Ho := Lib.hid (own_drawn Ho.out hd)
      clear hd
      cases hok : Tr.ok ys with
      | true =>
        have HOK := Lib.hid hok
        clear hok
        go_wp2
        go_ret
        exact ⟨ys, _, _, _, rfl, NdAt.of_own Ho.out, own_cap Ho.out, by omega, HC.out, HG.out⟩
      | false =>
        have HOK := Lib.hid hok
        clear hok
        go_wp2_with fail
        refine (l3Tree_ex _ B k 8 (by decide) HC.out).mono ?_
        rintro e w6 ⟨zs, A6, c6, rfl, ho, ⟨hl1, hl2⟩, _, c, g⟩
        go_wp2
        go_ret
        exact ⟨zs, _, _, _, rfl, NdAt.of_own (own_base ho HG.out.size), own_cap ho, by omega, c, Kit.grown_trans HG.out g⟩
    · have ej : decide (0 < j) = true := by simp; omega
      by_cases hm0 : m = 0
      · subst hm0
        go_wp2_with fail
        refine (specTreeOk_any _ _ _ ys _ (NdIn.of_own Ho.out) (by omega)).mono ?_
        rintro e w5 ⟨rfl, hd⟩
        have HC := Lib.hid (HC.out.drawn hd)
        have HG := Lib.hid (grown_drawn HG.out hd)
        have Ho := Lib.hid (own_drawn Ho.out hd)
        clear hd
        cases hok : Tr.ok ys with
        | true =>
          have HOK := Lib.hid hok
          clear hok
          go_wp2
          go_ret
          exact ⟨ys, _, _, _, rfl, NdAt.of_own Ho.out, own_cap Ho.out, by omega, HC.out, HG.out⟩
        | false =>
          have HOK := Lib.hid hok
          clear hok
          go_wp2_with fail
          refine (l3Tree_ex _ B k 8 (by decide) HC.out).mono ?_
          rintro e w6 ⟨zs, A6, c6, rfl, ho, ⟨hl1, hl2⟩, _, c, g⟩
          go_wp2
          go_ret
          exact ⟨zs, _, _, _, rfl, NdAt.of_own (own_base ho HG.out.size), own_cap ho, by omega, c, Kit.grown_trans HG.out g⟩
      · have em : decide (0 < m) = true := by simp; omega
        obtain ⟨g2, hg2, f2, f2'⟩ := own_form Ho.out (by omega)
        subst hg2
        have hcap := own_cap Ho.out
        go_wp2_with fail
        refine (l1Below_ex _ B k (m : Int) HC.out).mono ?_
        rintro e w3 ⟨r, rfl, hr, c, g⟩
        have HC := Lib.hid c
        have HG := Lib.hid (Kit.grown_trans HG.out g)
        have Ho := Lib.hid (Kit.keptRow Ho.out hBB g)
        clear c g
        have hr' : r < m := by omega
        have r0 : (0 : Int) ≤ (r : Int) := by omega
        have r1 : (r : Int) < (m : Int) := by omega
        go_wp2_with fail
        refine (l1Below_ex _ B k 3 HC.out).mono ?_
        rintro e w4 ⟨v, rfl, hv, c, g⟩
        have HC := Lib.hid c
        have HG := Lib.hid (Kit.grown_trans HG.out g)
        have Ho := Lib.hid (Kit.keptRow Ho.out hBB g)
        clear c g
        by_cases h0 : v = 0
        · as_aux_lemma =>
            have e0 : ((v : Int) == 0) = true := by simp [h0]
            go_wp2_with fail
            refine (l2Label_ex _ B k HC.out).mono ?_
            rintro e w5 ⟨x, rfl, c, g⟩
            have HC := Lib.hid c
            have HG := Lib.hid (Kit.grown_trans HG.out g)
            have Ho := Lib.hid (Kit.keptRow Ho.out hBB g)
            clear c g
            have c0 := own_even Ho.out (k := r) (by rw [HM.out]; exact hr')
            have f0 := Ho.out.frozenAt (r * 2)
            go_wp2
            have ho := (Ho.out.stored (r * 2) (.int .i64 x)).1
            have hst := (Ho.out.stored (r * 2) (.int .i64 x)).2
            rw [Tr.cells_set_even] at ho
            go_roundw
            case rel => exact ⟨_, m, j - 1, by rw [List.length_set]; exact HM.out, ho, by go_num, by omega, by omega, HC.out.kept hst (fun i hi => by have := (Ho.out.lt i hi).1; omega), HG.out.andThen hst (fun i hi => .inl (by have := (Ho.out.lt i hi).1; omega))⟩
            case measure => simp [intOf]; omega
        · have e0 : ((v : Int) == 0) = false := beq_eq_false_iff_ne.2 (by omega)
          by_cases h1 : v = 1
          · have e1 : ((v : Int) == 1) = true := by simp [h1]
            by_cases hr0 : 0 < r ∧ 1 < m
            · as_aux_lemma =>
                have er : decide (0 < r) = true := by simp; omega
                have e2 : decide (1 < m) = true := by simp; omega
                have e2x : decide ((1 : Int) < (m : Int)) = true := by simp; omega
                have hr1 : 0 < r := hr0.1
                have hm1 : 1 < m := hr0.2
                have hsx := HG.out.size
                have lg := (Ho.out.lt g2 rfl).2
                have zd : w4.drew.heap.size = w4.heap.size := rfl
                clear hq hv hr hr0
                have S0 := Lib.hid (show NearG B k w.heap.size (some ⟨g2, 0, none⟩) m c2 ys w w4.drew from ⟨own_drawn Ho.out (Drawn.refl _).drew, HC.out.drawn (Drawn.refl _).drew, grown_drawn HG.out (Drawn.refl _).drew⟩)
                have q1 : (r : Int) + 1 ≤ (m : Int) := by omega
                have q2 : IntKind.i64.wrap ((r : Int) + 1) = (r : Int) + 1 := Kit.w64 (by omega) (by omega)
                have q3 : (0 : Int) ≤ (r : Int) + 1 := by omega
                have q4 : (m : Int) ≤ (c2 : Int) := by omega
                have q5 : (r : Int) ≤ (c2 : Int) := by omega
                by_cases hcx : c2 = r + 1
                · subst hcx
                  obtain rfl : m = r + 1 := by omega
                  have q7 : (r : Int) ≤ (r : Int) + 1 := by omega
                  have q8 : (r : Int) ≤ ((r + 1 : Nat) : Int) := by omega
                  have q9 : r ≤ r + 1 := by omega
                  go_wp2_with fail
                  go_region_held3 (fun wq => NearG B k w.heap.size (some ⟨g2, 0, none⟩) (r + 1) (r + 1) ys w wq) (first | (with_reducible exact SY) | (with_reducible exact S0.out) | (with_reducible exact near_keep0 (by assumption) g5)) (first | (go_at_call 54; refine (l3Copy_ex ⟨g2, 0, none⟩ r (r + 1) (ys.take r) _ (NdIn.takeN (NdIn.of_own (near_own (by assumption))) (by omega)) (by omega)).mono ?_; rintro e w5 ⟨A5, c5, rfl, ho5, g5⟩; have SX := near_keep0 (by assumption) g5; obtain ⟨g5x, hg5x, f5, f5'⟩ := own_form ho5 (by omega); subst hg5x) | (refine step_append_nodes _ rfl _ _ 24 rfl w4.drew.heap.size 47 i0 Try.underlying24 Hi.out hz0 hz1 hz2 (.slice (some ⟨g5x, 0, none⟩) r c5) r (0) (r) (ys.take r) ([]) rfl ho5 ⟨g2, 0, none⟩ _ rfl (B := 0) ⟨rfl, fun h => absurd h (by omega), fun _ _ i hi => absurd hi (by omega)⟩ (by omega) (by omega) (by have := g5.size; omega) ?_; intro v6 w6 hown6 hgrow6; have HR6 : ∀ b, (Value.slice (some ⟨g5x, 0, none⟩) r c5).ownBlock = some b → w.heap.size ≤ b ∧ (Value.slice (some ⟨g2, 0, none⟩) (r + 1) (r + 1)).ownBlock ≠ some b ∧ B < b := (fun b e => by have hbx : g5x = b := (by injection e); subst hbx; exact ⟨by omega, fun e2 => absurd (show g2 = g5x by injection e2) (by omega), by omega⟩); have SY := near_grown SX hgrow6 HR6))
                  go_wp2
                  go_roundw
                  case rel => exact ⟨_, r, j - 1, by rw [List.append_nil, List.length_take, HM.out]; omega, own_base hown6 (by omega), by go_num, by omega, by omega, near_cur SY, near_grow SY⟩
                  case measure => simp [intOf]; omega
                · have hcx' : ¬ (c2 : Int) = (r : Int) + 1 := by omega
                  go_wp2_with fail
                  go_region_held3 (fun wq => NearG B k w.heap.size (some ⟨g2, 0, none⟩) (m) (c2) ys w wq) (first | (with_reducible exact SY) | (with_reducible exact S0.out) | (with_reducible exact near_keep0 (by assumption) g5)) (first | (go_at_call 54; refine (l3Copy_ex ⟨g2, 0, none⟩ r (c2) (ys.take r) _ (NdIn.takeN (NdIn.of_own (near_own (by assumption))) (by omega)) (by omega)).mono ?_; rintro e w5 ⟨A5, c5, rfl, ho5, g5⟩; have SX := near_keep0 (by assumption) g5; obtain ⟨g5x, hg5x, f5, f5'⟩ := own_form ho5 (by omega); subst hg5x) | (refine step_append_nodes _ rfl _ _ 24 rfl w4.drew.heap.size 47 i0 Try.underlying24 Hi.out hz0 hz1 hz2 (.slice (some ⟨g5x, 0, none⟩) r c5) r (m - (r + 1)) (m - 1) (ys.take r) (ys.drop (r + 1)) rfl ho5 ⟨g2, (r + 1) * 2, none⟩ _ rfl (NdIn.dropN (NdIn.of_own (near_own SX)) (by omega)) (by omega) (by omega) (by have := g5.size; omega) ?_; intro v6 w6 hown6 hgrow6; have HR6 : ∀ b, (Value.slice (some ⟨g5x, 0, none⟩) r c5).ownBlock = some b → w.heap.size ≤ b ∧ (Value.slice (some ⟨g2, 0, none⟩) (m) (c2)).ownBlock ≠ some b ∧ B < b := (fun b e => by have hbx : g5x = b := (by injection e); subst hbx; exact ⟨by omega, fun e2 => absurd (show g2 = g5x by injection e2) (by omega), by omega⟩); have SY := near_grown SX hgrow6 HR6))
                  go_wp2
                  go_roundw
                  case rel => exact ⟨_, m - 1, j - 1, by rw [List.length_append, List.length_take, List.length_drop, HM.out]; omega, own_base hown6 (by omega), by go_num, by omega, by omega, near_cur SY, near_grow SY⟩
                  case measure => simp [intOf]; omega
            · as_aux_lemma =>
                have er : decide (0 < r) = false := by simp; omega
                go_wp2
                go_roundw
                case rel => exact ⟨ys, m, j - 1, HM.out, Ho.out, by go_num, by omega, by omega, HC.out, HG.out⟩
                case measure => simp [intOf]; omega
          · as_aux_lemma =>
              have e1 : ((v : Int) == 1) = false := beq_eq_false_iff_ne.2 (by omega)
              have hsx := HG.out.size
              have hgB : B < g2 := by omega
              have lg := (Ho.out.lt g2 rfl).2
              have zd : w4.drew.heap.size = w4.heap.size := rfl
              obtain ⟨m1, hm1⟩ : ∃ m1, m1 = m - 1 := ⟨_, rfl⟩
              obtain ⟨d, hd⟩ : ∃ d, d = Tr.d ys m1 := ⟨_, rfl⟩
              have cd := own_odd Ho.out (k := m1) (by rw [HM.out]; omega)
              rw [← hd] at cd
              have e6 : (m : Int) - 1 = (m1 : Int) := by omega
              have a6 : IntKind.i64.wrap ((m : Int) - 1) = (m1 : Int) := by rw [Kit.w64 (by omega) (by omega)]; exact e6
              have k1 : (0 : Int) ≤ (m1 : Int) := by omega
              have k2 : (m1 : Int) < (m : Int) := by omega
              have hm5 : 0 < m := by omega
              have k3 : m1 < m := by omega
              have a7 : IntKind.i64.wrap (m1 : Int) = (m1 : Int) := Kit.w64 (by omega) (by omega)
              have HM1 := Lib.hid hm1
              clear hq hv hr hd hm1
              have S0 := Lib.hid (show w4.drew.cell? ⟨g2, m1 * 2 + 1, none⟩ = some (.int .i64 d) ∧ NearG B k w.heap.size (some ⟨g2, 0, none⟩) m c2 ys w w4.drew from ⟨cd, own_drawn Ho.out (Drawn.refl _).drew, HC.out.drawn (Drawn.refl _).drew, grown_drawn HG.out (Drawn.refl _).drew⟩)
              clear cd
              go_wp2_with fail
              go_region_held3 (fun wq => wq.cell? ⟨g2, m1 * 2 + 1, none⟩ = some (.int .i64 d) ∧ NearG B k w.heap.size (some ⟨g2, 0, none⟩) m c2 ys w wq) (first | (with_reducible exact SY) | (with_reducible exact S0.out) | (with_reducible exact SC) | (with_reducible exact nearC_keep0 SC hgB (Kit.grown_alloc _ _ none))) (first | (go_at_call 54; refine (l3Copy_ex ⟨g2, 0, none⟩ m c2 ys _ (NdIn.of_own (near_own (nearC_of (by assumption)))) (by omega)).mono ?_; rintro e w5 ⟨A5, c5, rfl, ho5, g5⟩; have SC := nearC_keep0 (by assumption) hgB g5; obtain ⟨g5x, hg5x, f5, f5'⟩ := own_form ho5 (by omega); subst hg5x) | (go_at_call 113; refine (l2Label_ex _ B k (near_cur (nearC_of (by assumption)))).mono ?_; rintro e w6 ⟨x6, rfl, cu6, g6⟩; have SC := nearC_keepB (by assumption) hgB hBB cu6 g6; have ho6 := Kit.keptRow ho5 (by omega) g6) | (go_at_call 110; refine (l1Below_ex _ B k _ (near_cur (nearC_of (by assumption)))).mono ?_; rintro e w7 ⟨x7, rfl, _, cu7, g7⟩; have SC := nearC_keepB (by assumption) hgB hBB cu7 g7; have ho7 := Kit.keptRow ho6 (by omega) g7) | (refine step_append_node w7 rfl _ _ 24 rfl w4.drew.heap.size 47 i0 Try.underlying24 Hi.out hz0 hz1 hz2 (.slice (some ⟨g5x, 0, none⟩) m c5) m ys rfl ho7 (by rw [HM.out]) _ _ rfl (by rw [HM.out]; omega) (by have := g5.size; have := g6.size; have := g7.size; omega) ?_; intro v6 w8 hown6 hgrow6; have HR6 : ∀ b, (Value.slice (some ⟨g5x, 0, none⟩) m c5).ownBlock = some b → w.heap.size ≤ b ∧ (Value.slice (some ⟨g2, 0, none⟩) m c2).ownBlock ≠ some b ∧ B < b := (fun b e => by have hbx : g5x = b := (by injection e); subst hbx; exact ⟨by omega, fun e2 => absurd (show g2 = g5x by injection e2) (by omega), by omega⟩); have SY := nearC_grown (nearC_keep0 SC hgB (Kit.grown_alloc _ _ none)) hgrow6 HR6))
              go_wp2
              rw [List.length_append, List.length_singleton, HM.out] at hown6
              go_roundw
              case rel => exact ⟨_, m + 1, j - 1, by rw [List.length_append, List.length_singleton, HM.out], own_base hown6 (by omega), by go_num, by omega, by omega, near_cur SY.2, near_grow SY.2⟩
              case measure => simp [intOf]; omega

end Go.Proofs.Ytgkkeejhfofcaaa
