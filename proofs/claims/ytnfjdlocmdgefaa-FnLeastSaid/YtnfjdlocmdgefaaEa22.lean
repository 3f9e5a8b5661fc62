/- Texts of one claim laid into one file, in build order: MapsS, Fiv, Exn. -/
import Derived.Test.YtnfjdlocmdgefaaEa19
import Derived.Test.YtnfjdlocmdgefaaEa21
import Derived.Test.YtnfjdlocmdgefaaEa4
import Derived.Test.YtnfjdlocmdgefaaEa7
/- Contracts (MapsS). -/
namespace Go.Proofs.Ytnfjdlocmdgefaa
open Go.RowKit
set_option linter.unusedVariables false


set_option maxHeartbeats 800000 in
set_option maxRecDepth 100000 in
theorem specMapsOf_any {xs ys : Tr} {A A' : Option Addr} {n n' c c' : Nat} (w : World) (ha : NdIn w w.heap.size A n xs) (hb : NdIn w w.heap.size A' n' ys) (hn : n ≤ 1048576) (hn' : n' ≤ 1048576) :
    Calls Try.prog 16 #[.slice A n c, .slice A' n' c'] w (OwnRows (Am.all xs ys) w) := by
  have T1 : ∀ wq, Drawn w wq → Calls Try.prog 10 #[.slice A n c] wq fun e w' => e = .returned (.bool (Tr.ok xs)) ∧ Drawn w w' := fun wq hd => (specTreeOk_any A n c xs wq (ha.to_drawn hd) hn).mono fun e w' h => ⟨h.1, hd.trans h.2⟩
  have T2 : ∀ wq, Drawn w wq → Calls Try.prog 10 #[.slice A' n' c'] wq fun e w' => e = .returned (.bool (Tr.ok ys)) ∧ Drawn w w' := fun wq hd => (specTreeOk_any A' n' c' ys wq (hb.to_drawn hd) hn').mono fun e w' h => ⟨h.1, hd.trans h.2⟩
  have EM : ∀ wq, Drawn w wq → Am.all xs ys = [] → OwnRows (Am.all xs ys) w (.returned (.slice (some ⟨wq.heap.size, 0, none⟩) 0 0)) (wq.alloc (.cells #[] 36)) := fun wq hd he => by
    have hb0 : Below w.heap.size w wq := hd.toBelow
    rw [he]
    exact ⟨_, [], rfl, ⟨World.ownsRow_lit wq #[] 0 hb0.size (Nat.zero_le _) rfl, rfl, fun i hi => absurd hi (Nat.not_lt_zero _)⟩, hb0.alloc hb0.size _⟩
  have MR : Tr.ok xs = true → Tr.ok ys = true → n ≤ 5 → n' ≤ 5 → ∀ wq, Drawn w wq → Calls Try.prog 44 #[.slice A n c, .slice A' n' c', .slice (some ⟨wq.heap.size, 0, none⟩) 1 1, .int .i64 1] (wq.alloc (.cells #[.int .i64 0, .int .i64 0] 77)) fun e w' => ∃ v, e = .returned v ∧ Hid (OwnRows (Am.all xs ys) w (.returned v) w') := fun h1 h2 h3 h4 wq hd => by
    have hb0 : Below w.heap.size w wq := hd.toBelow
    have b2 : Below w.heap.size w (wq.alloc (.cells #[.int .i64 0, .int .i64 0] 77)) := hb0.alloc hb0.size _
    have nx := ha.1
    have ny := hb.1
    have x1 := (Tr.len24 h1).1
    have o := World.ownsRow_lit (base := w.heap.size) (size := 2) (e := 77) wq #[.int .i64 0, .int .i64 0] 1 hb0.size (by decide) rfl
    refine (specMore_any h1 h2 nx.symm ny.symm h3 h4 (xs.length - 1) 1 1 1 ⟨wq.heap.size, 0, none⟩ 1 [(0, 0)] _ (by omega) (Nat.le_refl _) rfl (Nat.le_refl _) (Nat.le_refl _) (ha.to_below b2) (hb.to_below b2) (NdIn.of_own o)).mono ?_
    rintro e w' ⟨v, vs, rfl, hr, hb'⟩
    rw [Am.all_yes (by rw [h1, h2, decide_eq_true (by omega), decide_eq_true (by omega)]; rfl)]
    exact ⟨v, rfl, Lib.hid ⟨v, vs, rfl, hr.lower b2.size, b2.trans (hb'.mono b2.size)⟩⟩
  have D0 := Lib.hid (Drawn.refl w)
  have HT1 := Lib.hid T1
  have HT2 := Lib.hid T2
  have HEM := Lib.hid EM
  have HMR := Lib.hid MR
  have nx := Lib.hid ha.1
  have ny := Lib.hid hb.1
  clear T1 T2 EM MR ha hb
  cases hx : Tr.ok xs with
  | false =>
    have HN := Lib.hid (show Am.all xs ys = [] from Am.all_no (by rw [hx]; rfl))
    rw [hx] at HT1
    clear hx HMR HT2
    go_enter Try.func16, Try.ntmps16
    go_wp2_with (go_at_call 10; refine (HT1.out _ D0.out).mono ?_; rintro e w2 ⟨rfl, hd⟩; have HD := Lib.hid hd; clear hd)
    go_ret
    exact HEM.out _ HD.out HN.out
  | true =>
    cases hy : Tr.ok ys with
    | false =>
      have HN := Lib.hid (show Am.all xs ys = [] from Am.all_no (by rw [hx, hy]; rfl))
      rw [hx] at HT1
      rw [hy] at HT2
      clear hx hy HMR
      go_enter Try.func16, Try.ntmps16
      go_wp2_with (go_at_call 10; first | (refine (HT1.out _ D0.out).mono ?_; clear HT1; rintro e w2 ⟨rfl, hd⟩; have HD := Lib.hid hd; clear hd) | (refine (HT2.out _ HD.out).mono ?_; rintro e w3 ⟨rfl, hd⟩; have HD2 := Lib.hid hd; clear hd))
      go_ret
      exact HEM.out _ HD2.out HN.out
    | true =>
      by_cases h5 : n ≤ 5
      · by_cases h6 : n' ≤ 5
        · have HM2 := Lib.hid (HMR.out hx hy h5 h6)
          rw [hx] at HT1
          rw [hy] at HT2
          have q1 : decide ((5 : Int) < (n : Int)) = false := by simp; omega
          have q2 : decide ((5 : Int) < (n' : Int)) = false := by simp; omega
          clear hx hy HMR HEM
          go_enter Try.func16, Try.ntmps16
          go_wp2_with (first
            | (go_at_call 10; first | (refine (HT1.out _ D0.out).mono ?_; clear HT1; rintro e w2 ⟨rfl, hd⟩; have HD := Lib.hid hd; clear hd) | (refine (HT2.out _ HD.out).mono ?_; rintro e w3 ⟨rfl, hd⟩; have HD2 := Lib.hid hd; clear hd))
            | (go_at_call 44; refine (HM2.out _ HD2.out).mono ?_; rintro e w4 ⟨v, rfl, h4⟩))
          go_ret
          exact h4.out
        · have HN := Lib.hid (show Am.all xs ys = [] from Am.all_no (by rw [hx, hy, decide_eq_false (show ¬ ys.length ≤ 5 by rw [ny.out]; exact h6), Bool.and_false]))
          rw [hx] at HT1
          rw [hy] at HT2
          have q1 : decide ((5 : Int) < (n : Int)) = false := by simp; omega
          have q2 : decide ((5 : Int) < (n' : Int)) = true := by simp; omega
          clear hx hy HMR
          go_enter Try.func16, Try.ntmps16
          go_wp2_with (go_at_call 10; first | (refine (HT1.out _ D0.out).mono ?_; clear HT1; rintro e w2 ⟨rfl, hd⟩; have HD := Lib.hid hd; clear hd) | (refine (HT2.out _ HD.out).mono ?_; rintro e w3 ⟨rfl, hd⟩; have HD2 := Lib.hid hd; clear hd))
          go_ret
          exact HEM.out _ HD2.out HN.out
      · have HN := Lib.hid (show Am.all xs ys = [] from Am.all_no (by rw [hx, hy, decide_eq_false (show ¬ xs.length ≤ 5 by rw [nx.out]; exact h5), Bool.and_false, Bool.false_and]))
        rw [hx] at HT1
        rw [hy] at HT2
        have q1 : decide ((5 : Int) < (n : Int)) = true := by simp; omega
        clear hx hy HMR
        go_enter Try.func16, Try.ntmps16
        go_wp2_with (go_at_call 10; first | (refine (HT1.out _ D0.out).mono ?_; clear HT1; rintro e w2 ⟨rfl, hd⟩; have HD := Lib.hid hd; clear hd) | (refine (HT2.out _ HD.out).mono ?_; rintro e w3 ⟨rfl, hd⟩; have HD2 := Lib.hid hd; clear hd))
        go_ret
        exact HEM.out _ HD2.out HN.out

end Go.Proofs.Ytnfjdlocmdgefaa

/- Contracts (Fiv). -/
namespace Go.Proofs.Ytnfjdlocmdgefaa
open Go.RowKit
set_option linter.unusedVariables false

section
variable {wa wx wy : World} {b : Nat} {p q : Addr} {v0 v1 v2 v3 v4 : Value}
theorem fv_below (h : ((wx.cell? ⟨b, 0, none⟩ = some v0 ∧ wx.cell? ⟨b, 1, none⟩ = some v1 ∧ wx.cell? ⟨b, 2, none⟩ = some v2) ∧ (wx.cell? p = some v3 ∧ wx.cell? q = some v4)) ∧ BelA wa wx) : Below wa.heap.size wa wx := h.2
theorem fv_keep (h : ((wx.cell? ⟨b, 0, none⟩ = some v0 ∧ wx.cell? ⟨b, 1, none⟩ = some v1 ∧ wx.cell? ⟨b, 2, none⟩ = some v2) ∧ (wx.cell? p = some v3 ∧ wx.cell? q = some v4)) ∧ BelA wa wx) (hb : Below wx.heap.size wx wy) : ((wy.cell? ⟨b, 0, none⟩ = some v0 ∧ wy.cell? ⟨b, 1, none⟩ = some v1 ∧ wy.cell? ⟨b, 2, none⟩ = some v2) ∧ (wy.cell? p = some v3 ∧ wy.cell? q = some v4)) ∧ BelA wa wy :=
  have c : ∀ {p : Addr} {v : Value}, wx.cell? p = some v → wy.cell? p = some v := fun hc => (hb.cell (World.block_lt_of_cell? _ _ hc)).trans hc
  ⟨⟨⟨c h.1.1.1, c h.1.1.2.1, c h.1.1.2.2⟩, c h.1.2.1, c h.1.2.2⟩, h.2.trans (hb.mono h.2.size)⟩
end

end Go.Proofs.Ytnfjdlocmdgefaa

/- Contracts (Exn). -/
namespace Go.Proofs.Ytnfjdlocmdgefaa
open Go.RowKit
set_option linter.unusedVariables false


section
variable {xs ys : Tr} {A A' : Option Addr} {n n' c c' n0 l : Nat} {all : List Tr} {J : List Tr → (Nat → Prop) → World → Prop}
theorem Exd.refl {g cm k : Nat} {pre : List Tr} {ms : Tr} {M : Nat → Prop} {W : World} (hk : k = ms.length) (hj : J pre M W) (hm : W.ownsRow n0 77 2 (.slice (some ⟨g, 0, none⟩) k cm) k (Tr.cells ms)) : Exd J n0 g cm pre ms M W W :=
  ⟨hj, fun _ _ _ => rfl, Below.refl _ _, by rw [← hk]; exact hm⟩
/-- a call of extend is behind us, in the same block -/
theorem Exd.fits (hJ : Frees J) {g cm : Nat} {pre0 pre pre' : List Tr} {ms ms' : Tr} {M : Nat → Prop} {W wr w4 w5 : World} (hs : Exd J n0 g cm pre0 ms M W wr) (hl : ms'.length = ms.length + 1) (hc : Tr.cells ms' = Tr.cells ms ++ Tr.cells [ms'.getD ms.length (0, 0)])
    (hg : wr.grownBy w4 (some g)) (hb : Below n0 wr w4) (h : Exd J n0 g cm pre' ms' M w4 w5) (hn0 : n0 ≤ W.heap.size) (hI : InM n0 M W) : Exd J n0 g cm pre' ms M W w5 := by
  obtain ⟨h1, h2, h3, h4⟩ := h
  obtain ⟨s1, s2, s3, s4⟩ := hs
  refine ⟨h1, fun q hq hne => (h2 q hq hne).trans ((hg.block q (Nat.lt_of_lt_of_le (hI q hq).2 s3.size) (fun e => hne (by cases e; rfl))).trans (s2 q hq hne)), (s3.trans hb).trans h3, ?_⟩
  rw [hl, hc] at h4
  exact own_front h4 (by rw [Tr.cells_length])
/-- .. in a block of its own -/
theorem Exd.grows (hJ : Frees J) {g g2 cm cm2 : Nat} {pre0 pre' : List Tr} {ms ms' : Tr} {M M2 : Nat → Prop} {W wr w4 w5 : World} (hs : Exd J n0 g cm pre0 ms M W wr)
    (hb4 : Below wr.heap.size wr w4) (hb : Below n0 wr w4) (hg2 : wr.heap.size ≤ g2) (hM2 : ∀ q, M2 q ↔ M q ∨ q = g2) (h : Exd J n0 g2 cm2 pre' ms' M2 w4 w5) (hI : InM n0 M W) (hM : M g) : Exd J n0 g cm pre' ms M W w5 := by
  obtain ⟨h1, h2, h3, h4⟩ := h
  obtain ⟨s1, s2, s3, s4⟩ := hs
  have lt : ∀ q, M q → q < wr.heap.size := fun q hq => Nat.lt_of_lt_of_le (hI q hq).2 s3.size
  have st : ∀ q, M q → w5.heap[q]? = wr.heap[q]? := fun q hq => (h2 q ((hM2 q).2 (.inl hq)) (by have := lt q hq; omega)).trans (hb4.block q (lt q hq))
  exact ⟨hJ _ _ _ _ _ none h1 (Kit.grown_refl _ _) (fun r e => by cases e) (fun b e => .inl ((hM2 b).2 (.inl e))), fun q hq hne => (st q hq).trans (s2 q hq hne), (s3.trans hb).trans h3, own_stay s4 (st g hM)⟩
end
set_option maxHeartbeats 800000 in
set_option maxRecDepth 100000 in
theorem extend_any {xs ys : Tr} {A A' : Option Addr} {n n' c c' n0 l : Nat} {all : List Tr} {J : List Tr → (Nat → Prop) → World → Prop} (hJ : Frees J) (hY : Yields Try.prog 77 n0 l all J)
    (hx : Tr.ok xs = true) (hy : Tr.ok ys = true) (hn : n = xs.length) (hn' : n' = ys.length) (hc : n ≤ c) (hc' : n' ≤ c') (r : Nat) : ∀ (x k g cm : Nat) (i : Int) (ms : Tr) (pre : List Tr) (M : Nat → Prop) (W : World),
    x + r = n → 1 ≤ x → i = (x : Int) → k = ms.length → k ≤ x → 1 ≤ k → Tr.d ms 0 = 0 → Mp.ok xs ys ms = true → NdIn W n0 A n xs → NdIn W n0 A' n' ys →
    W.ownsRow n0 77 2 (.slice (some ⟨g, 0, none⟩) k cm) k (Tr.cells ms) → M g → InM n0 M W → J pre M W → pre ++ Am.more xs ys r ms <+: all → n0 ≤ W.heap.size →
    Calls Try.prog 64 #[.slice A n c, .slice A' n' c', .slice (some ⟨g, 0, none⟩) k cm, .int .i64 i, .func (.yield l) #[] #[]] W fun e W' => e = .returned (.bool true) ∧ Exd J n0 g cm (pre ++ Am.more xs ys r ms) ms M W W' := by
  have n24 := (Tr.len24 hx).2
  have m24 := (Tr.len24 hy).2
  induction r with
  | zero =>
    intro x k g cm i ms pre M W hxr hx1 hi hk hkx hk1 hd0 hok hA hB hm hM hI hj hp hn0
    subst hk hi
    obtain rfl : x = n := by omega
    exact extend_leaf (xs := xs) (ys := ys) hJ hY g cm ms pre M W (by omega) hm hM hI hj hk1 (by omega) hp hn0
  | succ r ih =>
    intro x k g cm i ms pre M W hxr hx1 hi hk hkx hk1 hd0 hok hA hB hm hM hI hj hp hn0
    subst hi
    have e1 : ((xs.length - (r + 1) : Nat) : Int) = (x : Int) := by omega
    have hasx : Tr.has xs (x : Int) = true := Tr.has_iff.2 ⟨hx, by omega, by omega⟩
    have hp0 : pre ++ Am.more xs ys r ms <+: all := (by rw [Am.more_upto, ← List.append_assoc]; exact List.prefix_append _ _ : pre ++ Am.more xs ys r ms <+: pre ++ Am.more xs ys (r + 1) ms).trans hp
    -- the first call
    have C1 := Lib.hid ((ih (x + 1) k g cm ((x : Int) + 1) ms pre M W (by omega) (by omega) (by omega) hk (by omega) hk1 hd0 hok hA hB hm hM hI hj hp0 hn0).mono (R' := fun e w' => e = .returned (.bool true) ∧ Exd J n0 g cm ((pre ++ Am.more xs ys r ms) ++ Am.upto xs ys r ms 0) ms M W w') (by
      rintro e w' ⟨he, h⟩
      rw [Am.upto_zero, List.append_nil]
      exact ⟨he, h⟩))
    -- the call that comes behind an append
    have pr : ∀ y, y < n' → (pre ++ Am.more xs ys r ms) ++ Am.upto xs ys r ms (y + 1) <+: all := fun y hy' => by
      refine List.IsPrefix.trans ?_ hp
      rw [Am.more_upto, ← List.append_assoc, List.prefix_append_right_inj]
      have := Am.upto_pre (xs := xs) (ys := ys) (r := r) (m := ms) (y + 1) (ys.length - (y + 1))
      rwa [show y + 1 + (ys.length - (y + 1)) = ys.length by omega] at this
    have AF : ∀ y wr, y < n' → Exd J n0 g cm ((pre ++ Am.more xs ys r ms) ++ Am.upto xs ys r ms y) ms M W wr → Mp.after xs ys ms k (x : Int) (y : Int) = true →
        (1 ≤ y ∧ Mp.ok xs ys (ms ++ [((x : Int), (y : Int))]) = true) ∧ (pre ++ Am.more xs ys r ms) ++ Am.upto xs ys r ms (y + 1) = ((pre ++ Am.more xs ys r ms) ++ Am.upto xs ys r ms y) ++ Am.more xs ys r (ms ++ [((x : Int), (y : Int))]) := fun y wr hy' _ hf => by
      have hy1 : 1 ≤ y := by
        rcases Nat.eq_zero_or_pos y with rfl | h
        · rw [hk] at hf
          have := Mp.after_root (xs := xs) (ys := ys) (ms := ms) (a := (x : Int)) (by omega) hd0
          rw [show ((0 : Nat) : Int) = 0 from rfl, this] at hf
          cases hf
        · exact h
      have ok2 : Mp.ok xs ys (ms ++ [((x : Int), (y : Int))]) = true := by
        rw [Mp.ok_snoc hok hasx (Tr.has_iff.2 ⟨hy, by omega, by omega⟩), ← hk]; exact hf
      refine ⟨⟨hy1, ok2⟩, ?_⟩
      rw [Am.upto_succ hy1, e1, if_pos ok2, ← List.append_assoc]
    have NF : ∀ y, y < n' → Mp.after xs ys ms k (x : Int) (y : Int) = false → Am.upto xs ys r ms (y + 1) = Am.upto xs ys r ms y := fun y hy' hf => by
      rcases Nat.eq_zero_or_pos y with rfl | h
      · rfl
      · rw [Am.upto_succ h, e1, if_neg (by rw [Mp.ok_snoc hok hasx (Tr.has_iff.2 ⟨hy, by omega, by omega⟩), ← hk, hf]; exact Bool.false_ne_true), List.append_nil]
    have CF : ∀ (y : Nat) (wr w3 w4 : World), y < n' → Exd J n0 g cm ((pre ++ Am.more xs ys r ms) ++ Am.upto xs ys r ms y) ms M W wr → Mp.after xs ys ms k (x : Int) (y : Int) = true →
        Below wr.heap.size wr w3 → w4.ownsRow n0 77 2 (.slice (some ⟨g, 0, none⟩) (k + 1) cm) (k + 1) (Tr.cells ms ++ Tr.cells [((x : Int), (y : Int))]) → w3.grownBy w4 (some g) →
        Calls Try.prog 64 #[.slice A n c, .slice A' n' c', .slice (some ⟨g, 0, none⟩) (k + 1) cm, .int .i64 ((x : Int) + 1), .func (.yield l) #[] #[]] w4 fun e w5 => e = .returned (.bool true) ∧ Exd J n0 g cm ((pre ++ Am.more xs ys r ms) ++ Am.upto xs ys r ms (y + 1)) ms M W w5 := fun y wr w3 w4 hy' hs hf hb ho hgr => by
      obtain ⟨⟨hy1, ok2⟩, hup⟩ := AF y wr hy' hs hf
      have hgn := own_lt hm
      have sz : n0 ≤ wr.heap.size := Nat.le_trans hn0 hs.2.2.1.size
      have hgb : n0 ≤ g := hgn.1
      have b4 : Below n0 wr w4 := (hb.mono sz).grown hgr (Nat.le_trans sz hb.size) (fun q e => by cases e; exact hgb)
      have g4 : wr.grownBy w4 (some g) := Kit.grown_trans (grown_of_below hb _) hgr
      refine (ih (x + 1) (k + 1) g cm ((x : Int) + 1) (ms ++ [((x : Int), (y : Int))]) ((pre ++ Am.more xs ys r ms) ++ Am.upto xs ys r ms y) M w4 (by omega) (by omega) (by omega) (by simp [hk]) (by omega) (by omega) ?_ ok2
        ((hA.below hs.2.2.1).below b4) ((hB.below hs.2.2.1).below b4) (by rw [Tr.cells_append]; exact ho) hM (fun q e => ⟨(hI q e).1, Nat.lt_of_lt_of_le (hI q e).2 (Nat.le_trans hs.2.2.1.size b4.size)⟩)
        (hJ _ _ _ _ _ (some g) hs.1 g4 (fun q e => by cases e; exact hM) (fun b e => .inl e)) (by rw [← hup]; exact pr y hy') (Nat.le_trans sz b4.size)).mono ?_
      · rw [Tr.d_snoc _ (by omega)]; exact hd0
      · rintro e w5 ⟨he, h⟩
        rw [hup]
        refine ⟨he, hs.fits (pre := []) hJ (by simp) (by rw [Tr.cells_append]; simp) g4 b4 h hn0 hI⟩
    have CG : ∀ (y : Nat) (wr w3 w4 : World) (v' : Value), y < n' → Exd J n0 g cm ((pre ++ Am.more xs ys r ms) ++ Am.upto xs ys r ms y) ms M W wr → Mp.after xs ys ms k (x : Int) (y : Int) = true →
        Below wr.heap.size wr w3 → w4.ownsRow w3.heap.size 77 2 v' (k + 1) (Tr.cells ms ++ Tr.cells [((x : Int), (y : Int))]) → w3.grownBy w4 none →
        Calls Try.prog 64 #[.slice A n c, .slice A' n' c', v', .int .i64 ((x : Int) + 1), .func (.yield l) #[] #[]] w4 fun e w5 => e = .returned (.bool true) ∧ Exd J n0 g cm ((pre ++ Am.more xs ys r ms) ++ Am.upto xs ys r ms (y + 1)) ms M W w5 := fun y wr w3 w4 v' hy' hs hf hb ho hgr => by
      obtain ⟨⟨hy1, ok2⟩, hup⟩ := AF y wr hy' hs hf
      obtain ⟨A2, cm2, rfl⟩ := own_slice ho
      obtain ⟨g2, rfl, hg2, hg3⟩ := own_form ho (by omega)
      have sz : n0 ≤ wr.heap.size := Nat.le_trans hn0 hs.2.2.1.size
      have szb := hb.size
      have b5 : Below wr.heap.size wr w4 := hb.grown hgr hb.size (fun q e => by cases e)
      have b4 : Below n0 wr w4 := b5.mono sz
      refine (ih (x + 1) (k + 1) g2 cm2 ((x : Int) + 1) (ms ++ [((x : Int), (y : Int))]) ((pre ++ Am.more xs ys r ms) ++ Am.upto xs ys r ms y) (fun q => M q ∨ q = g2) w4 (by omega) (by omega) (by omega) (by simp [hk]) (by omega) (by omega) ?_ ok2
        ((hA.below hs.2.2.1).below b4) ((hB.below hs.2.2.1).below b4) (by rw [Tr.cells_append]; exact own_base ho (by omega)) (.inr rfl) (fun q e => ?_)
        (hJ _ _ _ _ _ none hs.1 (grown_of_below b5 none) (fun q e => by cases e) (fun b e => e.imp id (by rintro rfl; omega))) (by rw [← hup]; exact pr y hy') (Nat.le_trans sz b4.size)).mono ?_
      · rw [Tr.d_snoc _ (by omega)]; exact hd0
      · rcases e with e | rfl
        · exact ⟨(hI q e).1, Nat.lt_of_lt_of_le (hI q e).2 (Nat.le_trans hs.2.2.1.size b4.size)⟩
        · exact ⟨by omega, hg3⟩
      · rintro e w5 ⟨he, h⟩
        rw [hup]
        exact ⟨he, hs.grows hJ b5 b4 (by omega) (fun q => Iff.rfl) h hI hM⟩
    have PF' : ∀ (y : Nat) (wr wq : World), Exd J n0 g cm ((pre ++ Am.more xs ys r ms) ++ Am.upto xs ys r ms y) ms M W wr → Below wr.heap.size wr wq →
        Calls Try.prog 71 #[.slice A n c, .slice A' n' c', .slice (some ⟨g, 0, none⟩) k cm, .agg #[.int .i64 (x : Int), .int .i64 (y : Int)]] wq fun e w' => e = .returned (.bool (Mp.after xs ys ms k (x : Int) (y : Int))) ∧ Below wq.heap.size wq w' := fun y wr wq hs hb => by
      have sz : n0 ≤ wr.heap.size := Nat.le_trans hn0 hs.2.2.1.size
      have b4 : Below n0 wr wq := hb.mono sz
      have s4 := hs.2.2.2
      rw [← hk] at s4
      exact pairFits_any A A' _ n n' k c c' cm xs ys ms _ _ wq (((hA.below hs.2.2.1).below b4).more (Nat.le_trans sz b4.size)) (((hB.below hs.2.2.1).below b4).more (Nat.le_trans sz b4.size)) (NdIn.of_own (own_below s4 hb)) (by omega) (by omega) (by omega) hc hc'
    have OW : ∀ (y : Nat) (wr wq : World), Exd J n0 g cm ((pre ++ Am.more xs ys r ms) ++ Am.upto xs ys r ms y) ms M W wr → Below wr.heap.size wr wq → wq.ownsRow n0 77 2 (.slice (some ⟨g, 0, none⟩) k cm) k (Tr.cells ms) := fun y wr wq hs hb => by
      have s4 := hs.2.2.2
      rw [← hk] at s4
      exact own_below s4 hb
    have KC := own_cap hm
    have EN : (pre ++ Am.more xs ys r ms) ++ Am.upto xs ys r ms n' = pre ++ Am.more xs ys (r + 1) ms := by rw [hn', Am.more_upto, List.append_assoc]
    have NX : ∀ (y : Nat) (wr w2 : World), y < n' → Mp.after xs ys ms k (x : Int) (y : Int) = false → Exd J n0 g cm ((pre ++ Am.more xs ys r ms) ++ Am.upto xs ys r ms y) ms M W wr → Below wr.heap.size wr w2 → Exd J n0 g cm ((pre ++ Am.more xs ys r ms) ++ Am.upto xs ys r ms (y + 1)) ms M W w2 := fun y wr w2 hy' hf hs hb => by
      rw [NF y hy' hf]
      have sz : n0 ≤ wr.heap.size := Nat.le_trans hn0 hs.2.2.1.size
      exact ⟨hJ _ _ _ _ _ none hs.1 (grown_of_below hb none) (fun q e => by cases e) (fun b e => .inl e), fun q hq hne => (hb.block q (Nat.lt_of_lt_of_le (hI q hq).2 hs.2.2.1.size)).trans (hs.2.1 q hq hne), hs.2.2.1.trans (hb.mono sz), own_below hs.2.2.2 hb⟩
    have HN := Lib.hid EN
    have CFh := Lib.hid CF
    have CGh := Lib.hid CG
    have PFh := Lib.hid PF'
    have OWh := Lib.hid OW
    have NXh := Lib.hid NX
    have hLM : (Tr.cells ms).length = k * 2 := by rw [Tr.cells_length, hk]
    have HLM := Lib.hid hLM
    clear NX CF CG OW NF hLM EN PF' AF pr hp0 hp ih e1 hasx hj hI hM hm hA hB hok hd0 hY hJ hx hy
    have q1 : ((x : Int) == (n : Int)) = false := by rw [beq_eq_false_iff_ne]; omega
    have w1 : IntKind.i64.wrap ((x : Int) + 1) = (x : Int) + 1 := Kit.w64 (by omega) (by omega)
    have x30 : x ≤ 30 := by omega
    have n30 : n' ≤ 30 := by omega
    clear hk hn hn'
    obtain ⟨i0, hi, hz0, hz1, hz2⟩ := info_parts info_prX
    go_enter Try.func64, Try.ntmps64
    go_wp2_with (go_at_call 64; refine C1.out.mono ?_; clear C1; rintro e w1 ⟨rfl, hs0⟩; have HS := Lib.hid hs0; clear hs0)
    go_loopw [31] (fun v wr => ∃ y : Nat, v = .int .i64 (y : Int) ∧ y ≤ n' ∧ Exd J n0 g cm ((pre ++ Am.more xs ys r ms) ++ Am.upto xs ys r ms y) ms M W wr) (fun v _ => n' - (intOf v).toNat)
    case atStart => exact ⟨0, by simp, Nat.zero_le _, HS.out⟩
    case round =>
      obtain ⟨y, hy1, hy2, hs⟩ := hrel
      subst hy1
      have HS1 := Lib.hid hs
      clear hs HS
      by_cases hlt : y < n'
      · have sz : wr.heap.size + 1 = (wr.alloc (.cells #[.int .i64 (x : Int), .int .i64 (y : Int)] 77)).heap.size := by simp
        have HSZ := Lib.hid sz
        clear sz
        cases hf : Mp.after xs ys ms k (x : Int) (y : Int) with
        | false =>
          have PF3 := Lib.hid (fun wq hb => PFh.out y wr wq HS1.out hb)
          rw [hf] at PF3
          have HNF := Lib.hid (fun w2 hb => NXh.out y wr w2 hlt hf HS1.out hb)
          clear hf PFh NXh CFh CGh OWh
          go_wp2_with (go_at_call 71; refine (PF3.out _ ((Below.refl _ wr).alloc (Nat.le_refl _) _)).mono ?_; rintro e w2 ⟨rfl, hb2⟩; have HB2 := Lib.hid (((Below.refl _ wr).alloc (Nat.le_refl _) _).trans (hb2.mono (by rw [← HSZ.out]; omega))); clear hb2)
          go_roundw
          case rel => exact ⟨y + 1, by go_num, by omega, HNF.out _ HB2.out⟩
          case measure => simp [intOf]; omega
        | true =>
          have PF3 := Lib.hid (fun wq hb => PFh.out y wr wq HS1.out hb)
          rw [hf] at PF3
          have CF3 := Lib.hid (fun w3 w4 hb ho hg => CFh.out y wr w3 w4 hlt HS1.out hf hb ho hg)
          have CG3 := Lib.hid (fun w3 w4 v' hb ho hg => CGh.out y wr w3 w4 v' hlt HS1.out hf hb ho hg)
          have OW3 := Lib.hid (fun wq hb => OWh.out y wr wq HS1.out hb)
          clear hf PFh NXh CFh CGh OWh
          by_cases hroom : k + 1 ≤ cm
          · go_wp2_with (first
              | (go_at_call 71; refine (PF3.out _ ((Below.refl _ wr).alloc (Nat.le_refl _) _)).mono ?_; rintro e w2 ⟨rfl, hb2⟩; have HB2 := Lib.hid (((Below.refl _ wr).alloc (Nat.le_refl _) _).trans (hb2.mono (by rw [← HSZ.out]; omega))); have hc0 : w2.cell? ⟨wr.heap.size, 0, none⟩ = some (.int .i64 (x : Int)) := (hb2.cell (p := ⟨wr.heap.size, 0, none⟩) (by rw [← HSZ.out]; exact Nat.lt_succ_self _)).trans (by simp); have hc1 : w2.cell? ⟨wr.heap.size, 1, none⟩ = some (.int .i64 (y : Int)) := (hb2.cell (p := ⟨wr.heap.size, 1, none⟩) (by rw [← HSZ.out]; exact Nat.lt_succ_self _)).trans (by simp); clear hb2)
              | (at_builtin; refine wpList_want (by rfl) ?_; refine wpList_append_fits _ rfl _ _ 36 rfl n0 77 i0 2 Try.underlying36 hi hz1 g k cm (Tr.cells ms) rfl ((OW3.out _ HB2.out).alloc _) ⟨w2.heap.size, 0, none⟩ 1 1 (Tr.cells [((x : Int), (y : Int))]) rfl rfl (two_new _ _ _ _) (Tr.cells_cell _) hroom ?_; intro w4 ho4 hg4; have HO4 := Lib.hid ho4; have HG4 := Lib.hid hg4; have HB3 := Lib.hid (HB2.out.alloc HB2.out.size (.cells #[.int .i64 (x : Int), .int .i64 (y : Int)] 77)); clear ho4 hg4)
              | (go_at_call 64; refine (CF3.out _ _ HB3.out HO4.out HG4.out).mono ?_; rintro e w5 ⟨rfl, hs5⟩; have HS5 := Lib.hid hs5; clear hs5))
            go_roundw
            case rel => exact ⟨y + 1, by go_num, by omega, HS5.out⟩
            case measure => simp [intOf]; omega
          · go_wp2_with (first
              | (go_at_call 71; refine (PF3.out _ ((Below.refl _ wr).alloc (Nat.le_refl _) _)).mono ?_; rintro e w2 ⟨rfl, hb2⟩; have HB2 := Lib.hid (((Below.refl _ wr).alloc (Nat.le_refl _) _).trans (hb2.mono (by rw [← HSZ.out]; omega))); have hc0 : w2.cell? ⟨wr.heap.size, 0, none⟩ = some (.int .i64 (x : Int)) := (hb2.cell (p := ⟨wr.heap.size, 0, none⟩) (by rw [← HSZ.out]; exact Nat.lt_succ_self _)).trans (by simp); have hc1 : w2.cell? ⟨wr.heap.size, 1, none⟩ = some (.int .i64 (y : Int)) := (hb2.cell (p := ⟨wr.heap.size, 1, none⟩) (by rw [← HSZ.out]; exact Nat.lt_succ_self _)).trans (by simp); clear hb2)
              | (at_builtin; refine wpList_want (by rfl) ?_; refine wpList_append_grows _ rfl _ _ 36 rfl 77 i0 (.agg #[.int .i64 0, .int .i64 0]) 2 16 Try.underlying36 hi hz0 hz1 hz2 rfl (by omega) (some ⟨g, 0, none⟩) k cm (Tr.cells ms) rfl (fun e => by cases e) HLM.out (fun b e => by cases e; exact NdIn.cells_at (NdIn.of_own ((OW3.out _ HB2.out).alloc _))) ⟨w2.heap.size, 0, none⟩ 1 1 (Tr.cells [((x : Int), (y : Int))]) rfl rfl (two_new _ _ _ _) (Tr.cells_cell _) (by omega) (by unfold maxLen; omega) (by omega) ?_; intro v4 w4 ho4 hg4; have HO4 := Lib.hid ho4; have HG4 := Lib.hid hg4; have HB3 := Lib.hid (HB2.out.alloc HB2.out.size (.cells #[.int .i64 (x : Int), .int .i64 (y : Int)] 77)); clear ho4 hg4)
              | (go_at_call 64; refine (CG3.out _ _ _ HB3.out HO4.out HG4.out).mono ?_; rintro e w5 ⟨rfl, hs5⟩; have HS5 := Lib.hid hs5; clear hs5))
            go_roundw
            case rel => exact ⟨y + 1, by go_num, by omega, HS5.out⟩
            case measure => simp [intOf]; omega
      · obtain rfl : y = n' := by omega
        go_wp2
        go_ret
        refine ⟨rfl, ?_⟩
        rw [← HN.out]; exact HS1.out

end Go.Proofs.Ytnfjdlocmdgefaa
