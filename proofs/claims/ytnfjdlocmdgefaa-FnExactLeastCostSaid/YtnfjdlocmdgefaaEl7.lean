/- Texts of one claim laid into one file, in build order: Exn, Few, Lcn, LcS, Rgn, MapI. -/
import Derived.Test.YtnfjdlocmdgefaaEl1
import Derived.Test.YtnfjdlocmdgefaaEl2
import Derived.Test.YtnfjdlocmdgefaaEl5
import Derived.Test.YtnfjdlocmdgefaaEl6
import Derived.Deep.RegionHeld3
import Derived.Outline
import Derived.Test.YtnfjdlocmdgefaaRows
/- Contracts (Exn). -/
namespace Go.Proofs.Ytnfjdlocmdgefaa
open Go.RowKit
set_option linter.unusedVariables false


section
variable {xs ys : Tr} {A A' : Option Addr} {n n' c c' n0 l : Nat} {all : List Tr} {J : List Tr → (Nat → Prop) → World → Prop}
theorem Exd.refl {g cm k : Nat} {pre : List Tr} {ms : Tr} {M : Nat → Prop} {W : World} (hk : k = ms.length) (hj : J pre M W) (hm : W.ownsRow n0 77 2 (.slice (some ⟨g, 0, none⟩) k cm) k (Tr.cells ms)) : Exd J n0 g cm pre ms M W W :=
  ⟨hj, fun _ _ _ => rfl, Below.refl _ _, by rw [← hk]; exact hm⟩
/-- a call of extend is behind us, in the same block -/
theorem Exd.fits (hJ : Frees J) {g cm : Nat} {pre0 pre pre' : List Tr} {ms ms' : Tr} {M : Nat → Prop} {W wr w4 w5 : World} (hs : Exd J n0 g cm pre0 ms M W wr) (hl : ms'.length = ms.length + 1) (hc : Tr.cells ms' = Tr.cells ms ++ Tr.cells [ms'.getD ms.length (0, 0)])
    (hg : wr.grownBy w4 (some g)) (hb : Below n0 wr w4) (h : Exd J n0 g cm pre' ms' M w4 w5) (hn0 : n0 ≤ W.heap.size) (hI : InM n0 M W) : Exd J n0 g cm pre' ms M W w5 := by
  obtain ⟨h1, h2, h3, h4⟩ := h
  obtain ⟨s1, s2, s3, s4⟩ := hs
  refine ⟨h1, fun q hq hne => (h2 q hq hne).trans ((hg.block q (Nat.lt_of_lt_of_le (hI q hq).2 s3.size) (fun e => hne (by cases e; rfl))).trans (s2 q hq hne)), (s3.trans hb).trans h3, ?_⟩
  rw [hl, hc] at h4
  exact own_front h4 (by rw [Tr.cells_length])
/-- .. in a block of its own -/
theorem Exd.grows (hJ : Frees J) {g g2 cm cm2 : Nat} {pre0 pre' : List Tr} {ms ms' : Tr} {M M2 : Nat → Prop} {W wr w4 w5 : World} (hs : Exd J n0 g cm pre0 ms M W wr)
    (hb4 : Below wr.heap.size wr w4) (hb : Below n0 wr w4) (hg2 : wr.heap.size ≤ g2) (hM2 : ∀ q, M2 q ↔ M q ∨ q = g2) (h : Exd J n0 g2 cm2 pre' ms' M2 w4 w5) (hI : InM n0 M W) (hM : M g) : Exd J n0 g cm pre' ms M W w5 := by
  obtain ⟨h1, h2, h3, h4⟩ := h
  obtain ⟨s1, s2, s3, s4⟩ := hs
  have lt : ∀ q, M q → q < wr.heap.size := fun q hq => Nat.lt_of_lt_of_le (hI q hq).2 s3.size
  have st : ∀ q, M q → w5.heap[q]? = wr.heap[q]? := fun q hq => (h2 q ((hM2 q).2 (.inl hq)) (by have := lt q hq; omega)).trans (hb4.block q (lt q hq))
  exact ⟨hJ _ _ _ _ _ none h1 (Kit.grown_refl _ _) (fun r e => by cases e) (fun b e => .inl ((hM2 b).2 (.inl e))), fun q hq hne => (st q hq).trans (s2 q hq hne), (s3.trans hb).trans h3, own_stay s4 (st g hM)⟩
end
set_option maxHeartbeats 800000 in
set_option maxRecDepth 100000 in
theorem extend_any {xs ys : Tr} {A A' : Option Addr} {n n' c c' n0 l : Nat} {all : List Tr} {J : List Tr → (Nat → Prop) → World → Prop} (hJ : Frees J) (hY : Yields Try.prog 77 n0 l all J)
    (hx : Tr.ok xs = true) (hy : Tr.ok ys = true) (hn : n = xs.length) (hn' : n' = ys.length) (hc : n ≤ c) (hc' : n' ≤ c') (r : Nat) : ∀ (x k g cm : Nat) (i : Int) (ms : Tr) (pre : List Tr) (M : Nat → Prop) (W : World),
    x + r = n → 1 ≤ x → i = (x : Int) → k = ms.length → k ≤ x → 1 ≤ k → Tr.d ms 0 = 0 → Mp.ok xs ys ms = true → NdIn W n0 A n xs → NdIn W n0 A' n' ys →
    W.ownsRow n0 77 2 (.slice (some ⟨g, 0, none⟩) k cm) k (Tr.cells ms) → M g → InM n0 M W → J pre M W → pre ++ Am.more xs ys r ms <+: all → n0 ≤ W.heap.size →
    Calls Try.prog 64 #[.slice A n c, .slice A' n' c', .slice (some ⟨g, 0, none⟩) k cm, .int .i64 i, .func (.yield l) #[] #[]] W fun e W' => e = .returned (.bool true) ∧ Exd J n0 g cm (pre ++ Am.more xs ys r ms) ms M W W' := by
  have n24 := (Tr.len24 hx).2
  have m24 := (Tr.len24 hy).2
  induction r with
  | zero =>
    intro x k g cm i ms pre M W hxr hx1 hi hk hkx hk1 hd0 hok hA hB hm hM hI hj hp hn0
    subst hk hi
    obtain rfl : x = n := by omega
    exact extend_leaf (xs := xs) (ys := ys) hJ hY g cm ms pre M W (by omega) hm hM hI hj hk1 (by omega) hp hn0
  | succ r ih =>
    intro x k g cm i ms pre M W hxr hx1 hi hk hkx hk1 hd0 hok hA hB hm hM hI hj hp hn0
    subst hi
    have e1 : ((xs.length - (r + 1) : Nat) : Int) = (x : Int) := by omega
    have hasx : Tr.has xs (x : Int) = true := Tr.has_iff.2 ⟨hx, by omega, by omega⟩
    have hp0 : pre ++ Am.more xs ys r ms <+: all := (by rw [Am.more_upto, ← List.append_assoc]; exact List.prefix_append _ _ : pre ++ Am.more xs ys r ms <+: pre ++ Am.more xs ys (r + 1) ms).trans hp
    -- the first call
    have C1 := Lib.hid ((ih (x + 1) k g cm ((x : Int) + 1) ms pre M W (by omega) (by omega) (by omega) hk (by omega) hk1 hd0 hok hA hB hm hM hI hj hp0 hn0).mono (R' := fun e w' => e = .returned (.bool true) ∧ Exd J n0 g cm ((pre ++ Am.more xs ys r ms) ++ Am.upto xs ys r ms 0) ms M W w') (by
      rintro e w' ⟨he, h⟩
      rw [Am.upto_zero, List.append_nil]
      exact ⟨he, h⟩))
    -- the call that comes behind an append
    have pr : ∀ y, y < n' → (pre ++ Am.more xs ys r ms) ++ Am.upto xs ys r ms (y + 1) <+: all := fun y hy' => by
      refine List.IsPrefix.trans ?_ hp
      rw [Am.more_upto, ← List.append_assoc, List.prefix_append_right_inj]
      have := Am.upto_pre (xs := xs) (ys := ys) (r := r) (m := ms) (y + 1) (ys.length - (y + 1))
      rwa [show y + 1 + (ys.length - (y + 1)) = ys.length by omega] at this
    have AF : ∀ y wr, y < n' → Exd J n0 g cm ((pre ++ Am.more xs ys r ms) ++ Am.upto xs ys r ms y) ms M W wr → Mp.after xs ys ms k (x : Int) (y : Int) = true →
        (1 ≤ y ∧ Mp.ok xs ys (ms ++ [((x : Int), (y : Int))]) = true) ∧ (pre ++ Am.more xs ys r ms) ++ Am.upto xs ys r ms (y + 1) = ((pre ++ Am.more xs ys r ms) ++ Am.upto xs ys r ms y) ++ Am.more xs ys r (ms ++ [((x : Int), (y : Int))]) := fun y wr hy' _ hf => by
      have hy1 : 1 ≤ y := by
        rcases Nat.eq_zero_or_pos y with rfl | h
        · rw [hk] at hf
          have := Mp.after_root (xs := xs) (ys := ys) (ms := ms) (a := (x : Int)) (by omega) hd0
          rw [show ((0 : Nat) : Int) = 0 from rfl, this] at hf
          cases hf
        · exact h
      have ok2 : Mp.ok xs ys (ms ++ [((x : Int), (y : Int))]) = true := by
        rw [Mp.ok_snoc hok hasx (Tr.has_iff.2 ⟨hy, by omega, by omega⟩), ← hk]; exact hf
      refine ⟨⟨hy1, ok2⟩, ?_⟩
      rw [Am.upto_succ hy1, e1, if_pos ok2, ← List.append_assoc]
    have NF : ∀ y, y < n' → Mp.after xs ys ms k (x : Int) (y : Int) = false → Am.upto xs ys r ms (y + 1) = Am.upto xs ys r ms y := fun y hy' hf => by
      rcases Nat.eq_zero_or_pos y with rfl | h
      · rfl
      · rw [Am.upto_succ h, e1, if_neg (by rw [Mp.ok_snoc hok hasx (Tr.has_iff.2 ⟨hy, by omega, by omega⟩), ← hk, hf]; exact Bool.false_ne_true), List.append_nil]
    have CF : ∀ (y : Nat) (wr w3 w4 : World), y < n' → Exd J n0 g cm ((pre ++ Am.more xs ys r ms) ++ Am.upto xs ys r ms y) ms M W wr → Mp.after xs ys ms k (x : Int) (y : Int) = true →
        Below wr.heap.size wr w3 → w4.ownsRow n0 77 2 (.slice (some ⟨g, 0, none⟩) (k + 1) cm) (k + 1) (Tr.cells ms ++ Tr.cells [((x : Int), (y : Int))]) → w3.grownBy w4 (some g) →
        Calls Try.prog 64 #[.slice A n c, .slice A' n' c', .slice (some ⟨g, 0, none⟩) (k + 1) cm, .int .i64 ((x : Int) + 1), .func (.yield l) #[] #[]] w4 fun e w5 => e = .returned (.bool true) ∧ Exd J n0 g cm ((pre ++ Am.more xs ys r ms) ++ Am.upto xs ys r ms (y + 1)) ms M W w5 := fun y wr w3 w4 hy' hs hf hb ho hgr => by
      obtain ⟨⟨hy1, ok2⟩, hup⟩ := AF y wr hy' hs hf
      have hgn := own_lt hm
      have sz : n0 ≤ wr.heap.size := Nat.le_trans hn0 hs.2.2.1.size
      have hgb : n0 ≤ g := hgn.1
      have b4 : Below n0 wr w4 := (hb.mono sz).grown hgr (Nat.le_trans sz hb.size) (fun q e => by cases e; exact hgb)
      have g4 : wr.grownBy w4 (some g) := Kit.grown_trans (grown_of_below hb _) hgr
      refine (ih (x + 1) (k + 1) g cm ((x : Int) + 1) (ms ++ [((x : Int), (y : Int))]) ((pre ++ Am.more xs ys r ms) ++ Am.upto xs ys r ms y) M w4 (by omega) (by omega) (by omega) (by simp [hk]) (by omega) (by omega) ?_ ok2
        ((hA.below hs.2.2.1).below b4) ((hB.below hs.2.2.1).below b4) (by rw [Tr.cells_append]; exact ho) hM (fun q e => ⟨(hI q e).1, Nat.lt_of_lt_of_le (hI q e).2 (Nat.le_trans hs.2.2.1.size b4.size)⟩)
        (hJ _ _ _ _ _ (some g) hs.1 g4 (fun q e => by cases e; exact hM) (fun b e => .inl e)) (by rw [← hup]; exact pr y hy') (Nat.le_trans sz b4.size)).mono ?_
      · rw [Tr.d_snoc _ (by omega)]; exact hd0
      · rintro e w5 ⟨he, h⟩
        rw [hup]
        refine ⟨he, hs.fits (pre := []) hJ (by simp) (by rw [Tr.cells_append]; simp) g4 b4 h hn0 hI⟩
    have CG : ∀ (y : Nat) (wr w3 w4 : World) (v' : Value), y < n' → Exd J n0 g cm ((pre ++ Am.more xs ys r ms) ++ Am.upto xs ys r ms y) ms M W wr → Mp.after xs ys ms k (x : Int) (y : Int) = true →
        Below wr.heap.size wr w3 → w4.ownsRow w3.heap.size 77 2 v' (k + 1) (Tr.cells ms ++ Tr.cells [((x : Int), (y : Int))]) → w3.grownBy w4 none →
        Calls Try.prog 64 #[.slice A n c, .slice A' n' c', v', .int .i64 ((x : Int) + 1), .func (.yield l) #[] #[]] w4 fun e w5 => e = .returned (.bool true) ∧ Exd J n0 g cm ((pre ++ Am.more xs ys r ms) ++ Am.upto xs ys r ms (y + 1)) ms M W w5 := fun y wr w3 w4 v' hy' hs hf hb ho hgr => by
      obtain ⟨⟨hy1, ok2⟩, hup⟩ := AF y wr hy' hs hf
      obtain ⟨A2, cm2, rfl⟩ := own_slice ho
      obtain ⟨g2, rfl, hg2, hg3⟩ := own_form ho (by omega)
      have sz : n0 ≤ wr.heap.size := Nat.le_trans hn0 hs.2.2.1.size
      have szb := hb.size
      have b5 : Below wr.heap.size wr w4 := hb.grown hgr hb.size (fun q e => by cases e)
      have b4 : Below n0 wr w4 := b5.mono sz
      refine (ih (x + 1) (k + 1) g2 cm2 ((x : Int) + 1) (ms ++ [((x : Int), (y : Int))]) ((pre ++ Am.more xs ys r ms) ++ Am.upto xs ys r ms y) (fun q => M q ∨ q = g2) w4 (by omega) (by omega) (by omega) (by simp [hk]) (by omega) (by omega) ?_ ok2
        ((hA.below hs.2.2.1).below b4) ((hB.below hs.2.2.1).below b4) (by rw [Tr.cells_append]; exact own_base ho (by omega)) (.inr rfl) (fun q e => ?_)
        (hJ _ _ _ _ _ none hs.1 (grown_of_below b5 none) (fun q e => by cases e) (fun b e => e.imp id (by rintro rfl; omega))) (by rw [← hup]; exact pr y hy') (Nat.le_trans sz b4.size)).mono ?_
      · rw [Tr.d_snoc _ (by omega)]; exact hd0
      · rcases e with e | rfl
        · exact ⟨(hI q e).1, Nat.lt_of_lt_of_le (hI q e).2 (Nat.le_trans hs.2.2.1.size b4.size)⟩
        · exact ⟨by omega, hg3⟩
      · rintro e w5 ⟨he, h⟩
        rw [hup]
        exact ⟨he, hs.grows hJ b5 b4 (by omega) (fun q => Iff.rfl) h hI hM⟩
    have PF' : ∀ (y : Nat) (wr wq : World), Exd J n0 g cm ((pre ++ Am.more xs ys r ms) ++ Am.upto xs ys r ms y) ms M W wr → Below wr.heap.size wr wq →
        Calls Try.prog 71 #[.slice A n c, .slice A' n' c', .slice (some ⟨g, 0, none⟩) k cm, .agg #[.int .i64 (x : Int), .int .i64 (y : Int)]] wq fun e w' => e = .returned (.bool (Mp.after xs ys ms k (x : Int) (y : Int))) ∧ Below wq.heap.size wq w' := fun y wr wq hs hb => by
      have sz : n0 ≤ wr.heap.size := Nat.le_trans hn0 hs.2.2.1.size
      have b4 : Below n0 wr wq := hb.mono sz
      have s4 := hs.2.2.2
      rw [← hk] at s4
      exact pairFits_any A A' _ n n' k c c' cm xs ys ms _ _ wq (((hA.below hs.2.2.1).below b4).more (Nat.le_trans sz b4.size)) (((hB.below hs.2.2.1).below b4).more (Nat.le_trans sz b4.size)) (NdIn.of_own (own_below s4 hb)) (by omega) (by omega) (by omega) hc hc'
    have OW : ∀ (y : Nat) (wr wq : World), Exd J n0 g cm ((pre ++ Am.more xs ys r ms) ++ Am.upto xs ys r ms y) ms M W wr → Below wr.heap.size wr wq → wq.ownsRow n0 77 2 (.slice (some ⟨g, 0, none⟩) k cm) k (Tr.cells ms) := fun y wr wq hs hb => by
      have s4 := hs.2.2.2
      rw [← hk] at s4
      exact own_below s4 hb
    have KC := own_cap hm
    have EN : (pre ++ Am.more xs ys r ms) ++ Am.upto xs ys r ms n' = pre ++ Am.more xs ys (r + 1) ms := by rw [hn', Am.more_upto, List.append_assoc]
    have NX : ∀ (y : Nat) (wr w2 : World), y < n' → Mp.after xs ys ms k (x : Int) (y : Int) = false → Exd J n0 g cm ((pre ++ Am.more xs ys r ms) ++ Am.upto xs ys r ms y) ms M W wr → Below wr.heap.size wr w2 → Exd J n0 g cm ((pre ++ Am.more xs ys r ms) ++ Am.upto xs ys r ms (y + 1)) ms M W w2 := fun y wr w2 hy' hf hs hb => by
      rw [NF y hy' hf]
      have sz : n0 ≤ wr.heap.size := Nat.le_trans hn0 hs.2.2.1.size
      exact ⟨hJ _ _ _ _ _ none hs.1 (grown_of_below hb none) (fun q e => by cases e) (fun b e => .inl e), fun q hq hne => (hb.block q (Nat.lt_of_lt_of_le (hI q hq).2 hs.2.2.1.size)).trans (hs.2.1 q hq hne), hs.2.2.1.trans (hb.mono sz), own_below hs.2.2.2 hb⟩
    have HN := Lib.hid EN
    have CFh := Lib.hid CF
    have CGh := Lib.hid CG
    have PFh := Lib.hid PF'
    have OWh := Lib.hid OW
    have NXh := Lib.hid NX
    have hLM : (Tr.cells ms).length = k * 2 := by rw [Tr.cells_length, hk]
    have HLM := Lib.hid hLM
    clear NX CF CG OW NF hLM EN PF' AF pr hp0 hp ih e1 hasx hj hI hM hm hA hB hok hd0 hY hJ hx hy
    have q1 : ((x : Int) == (n : Int)) = false := by rw [beq_eq_false_iff_ne]; omega
    have w1 : IntKind.i64.wrap ((x : Int) + 1) = (x : Int) + 1 := Kit.w64 (by omega) (by omega)
    have x30 : x ≤ 30 := by omega
    have n30 : n' ≤ 30 := by omega
    clear hk hn hn'
    obtain ⟨i0, hi, hz0, hz1, hz2⟩ := info_parts info_prX
    go_enter Try.func64, Try.ntmps64
    go_wp2_with (go_at_call 64; refine C1.out.mono ?_; clear C1; rintro e w1 ⟨rfl, hs0⟩; have HS := Lib.hid hs0; clear hs0)
    go_loopw [31] (fun v wr => ∃ y : Nat, v = .int .i64 (y : Int) ∧ y ≤ n' ∧ Exd J n0 g cm ((pre ++ Am.more xs ys r ms) ++ Am.upto xs ys r ms y) ms M W wr) (fun v _ => n' - (intOf v).toNat)
    case atStart => exact ⟨0, by simp, Nat.zero_le _, HS.out⟩
    case round =>
      obtain ⟨y, hy1, hy2, hs⟩ := hrel
      subst hy1
      have HS1 := Lib.hid hs
      clear hs HS
      by_cases hlt : y < n'
      · have sz : wr.heap.size + 1 = (wr.alloc (.cells #[.int .i64 (x : Int), .int .i64 (y : Int)] 77)).heap.size := by simp
        have HSZ := Lib.hid sz
        clear sz
        cases hf : Mp.after xs ys ms k (x : Int) (y : Int) with
        | false =>
          have PF3 := Lib.hid (fun wq hb => PFh.out y wr wq HS1.out hb)
          rw [hf] at PF3
          have HNF := Lib.hid (fun w2 hb => NXh.out y wr w2 hlt hf HS1.out hb)
          clear hf PFh NXh CFh CGh OWh
          go_wp2_with (go_at_call 71; refine (PF3.out _ ((Below.refl _ wr).alloc (Nat.le_refl _) _)).mono ?_; rintro e w2 ⟨rfl, hb2⟩; have HB2 := Lib.hid (((Below.refl _ wr).alloc (Nat.le_refl _) _).trans (hb2.mono (by rw [← HSZ.out]; omega))); clear hb2)
          go_roundw
          case rel => exact ⟨y + 1, by go_num, by omega, HNF.out _ HB2.out⟩
          case measure => simp [intOf]; omega
        | true =>
          have PF3 := Lib.hid (fun wq hb => PFh.out y wr wq HS1.out hb)
          rw [hf] at PF3
          have CF3 := Lib.hid (fun w3 w4 hb ho hg => CFh.out y wr w3 w4 hlt HS1.out hf hb ho hg)
          have CG3 := Lib.hid (fun w3 w4 v' hb ho hg => CGh.out y wr w3 w4 v' hlt HS1.out hf hb ho hg)
          have OW3 := Lib.hid (fun wq hb => OWh.out y wr wq HS1.out hb)
          clear hf PFh NXh CFh CGh OWh
          by_cases hroom : k + 1 ≤ cm
          · go_wp2_with (first
              | (go_at_call 71; refine (PF3.out _ ((Below.refl _ wr).alloc (Nat.le_refl _) _)).mono ?_; rintro e w2 ⟨rfl, hb2⟩; have HB2 := Lib.hid (((Below.refl _ wr).alloc (Nat.le_refl _) _).trans (hb2.mono (by rw [← HSZ.out]; omega))); have hc0 : w2.cell? ⟨wr.heap.size, 0, none⟩ = some (.int .i64 (x : Int)) := (hb2.cell (p := ⟨wr.heap.size, 0, none⟩) (by rw [← HSZ.out]; exact Nat.lt_succ_self _)).trans (by simp); have hc1 : w2.cell? ⟨wr.heap.size, 1, none⟩ = some (.int .i64 (y : Int)) := (hb2.cell (p := ⟨wr.heap.size, 1, none⟩) (by rw [← HSZ.out]; exact Nat.lt_succ_self _)).trans (by simp); clear hb2)
              | (at_builtin; refine wpList_want (by rfl) ?_; refine wpList_append_fits _ rfl _ _ 36 rfl n0 77 i0 2 Try.underlying36 hi hz1 g k cm (Tr.cells ms) rfl ((OW3.out _ HB2.out).alloc _) ⟨w2.heap.size, 0, none⟩ 1 1 (Tr.cells [((x : Int), (y : Int))]) rfl rfl (two_new _ _ _ _) (Tr.cells_cell _) hroom ?_; intro w4 ho4 hg4; have HO4 := Lib.hid ho4; have HG4 := Lib.hid hg4; have HB3 := Lib.hid (HB2.out.alloc HB2.out.size (.cells #[.int .i64 (x : Int), .int .i64 (y : Int)] 77)); clear ho4 hg4)
              | (go_at_call 64; refine (CF3.out _ _ HB3.out HO4.out HG4.out).mono ?_; rintro e w5 ⟨rfl, hs5⟩; have HS5 := Lib.hid hs5; clear hs5))
            go_roundw
            case rel => exact ⟨y + 1, by go_num, by omega, HS5.out⟩
            case measure => simp [intOf]; omega
          · go_wp2_with (first
              | (go_at_call 71; refine (PF3.out _ ((Below.refl _ wr).alloc (Nat.le_refl _) _)).mono ?_; rintro e w2 ⟨rfl, hb2⟩; have HB2 := Lib.hid (((Below.refl _ wr).alloc (Nat.le_refl _) _).trans (hb2.mono (by rw [← HSZ.out]; omega))); have hc0 : w2.cell? ⟨wr.heap.size, 0, none⟩ = some (.int .i64 (x : Int)) := (hb2.cell (p := ⟨wr.heap.size, 0, none⟩) (by rw [← HSZ.out]; exact Nat.lt_succ_self _)).trans (by simp); have hc1 : w2.cell? ⟨wr.heap.size, 1, none⟩ = some (.int .i64 (y : Int)) := (hb2.cell (p := ⟨wr.heap.size, 1, none⟩) (by rw [← HSZ.out]; exact Nat.lt_succ_self _)).trans (by simp); clear hb2)
              | (at_builtin; refine wpList_want (by rfl) ?_; refine wpList_append_grows _ rfl _ _ 36 rfl 77 i0 (.agg #[.int .i64 0, .int .i64 0]) 2 16 Try.underlying36 hi hz0 hz1 hz2 rfl (by omega) (some ⟨g, 0, none⟩) k cm (Tr.cells ms) rfl (fun e => by cases e) HLM.out (fun b e => by cases e; exact NdIn.cells_at (NdIn.of_own ((OW3.out _ HB2.out).alloc _))) ⟨w2.heap.size, 0, none⟩ 1 1 (Tr.cells [((x : Int), (y : Int))]) rfl rfl (two_new _ _ _ _) (Tr.cells_cell _) (by omega) (by unfold maxLen; omega) (by omega) ?_; intro v4 w4 ho4 hg4; have HO4 := Lib.hid ho4; have HG4 := Lib.hid hg4; have HB3 := Lib.hid (HB2.out.alloc HB2.out.size (.cells #[.int .i64 (x : Int), .int .i64 (y : Int)] 77)); clear ho4 hg4)
              | (go_at_call 64; refine (CG3.out _ _ _ HB3.out HO4.out HG4.out).mono ?_; rintro e w5 ⟨rfl, hs5⟩; have HS5 := Lib.hid hs5; clear hs5))
            go_roundw
            case rel => exact ⟨y + 1, by go_num, by omega, HS5.out⟩
            case measure => simp [intOf]; omega
      · obtain rfl : y = n' := by omega
        go_wp2
        go_ret
        refine ⟨rfl, ?_⟩
        rw [← HN.out]; exact HS1.out

end Go.Proofs.Ytnfjdlocmdgefaa

/- Contracts (Few). -/
namespace Go.Proofs.Ytnfjdlocmdgefaa
open Go.RowKit
set_option linter.unusedVariables false


def few (xs : Tr) : Bool := decide (xs.length ≤ 5) && Tr.ok xs
set_option maxHeartbeats 800000 in
set_option maxRecDepth 100000 in
theorem fewEnough_any (A : Option Addr) (n c : Nat) (xs : Tr) (w : World) (h : NdIn w w.heap.size A n xs) (hn : n ≤ 1048576) (hnc : n ≤ c) :
    Calls Try.prog 63 #[.slice A n c] w fun e w' => e = .returned (.bool (few xs)) ∧ Below w.heap.size w w' := by
  have H := Lib.hid h
  have HL := Lib.hid h.1
  clear h
  by_cases h5 : n ≤ 5
  · have HF := Lib.hid (show few xs = Tr.ok xs by unfold few; rw [decide_eq_true (by rw [HL.out]; exact h5)]; rfl)
    have hd : decide ((n : Int) ≤ 5) = true := by simp; omega
    go_enter Try.func63, Try.ntmps63
    go_wp2_with (go_at_call 69; refine (implTreeOk_any A n c xs w H.out hn hnc).mono ?_; rintro e w2 ⟨rfl, hb⟩)
    go_ret
    exact ⟨by rw [HF.out]; rfl, hb⟩
  · have HF := Lib.hid (show few xs = false by unfold few; rw [decide_eq_false (by rw [HL.out]; exact h5)]; rfl)
    have hd : decide ((n : Int) ≤ 5) = false := by simp; omega
    go_enter Try.func63, Try.ntmps63
    go_wp2_with fail
    go_ret
    exact ⟨by rw [HF.out]; rfl, Below.refl _ _⟩
theorem Am.all_few {xs ys : Tr} (hx : few xs = true) (hy : few ys = true) : Am.all xs ys = Am.more xs ys (xs.length - 1) [(0, 0)] := by
  unfold few at hx hy
  simp only [Bool.and_eq_true] at hx hy
  exact Am.all_yes (by rw [hx.1, hx.2, hy.1, hy.2]; rfl)
theorem Am.all_few_a {xs ys : Tr} (hx : few xs = false) : Am.all xs ys = [] := by
  refine Am.all_no ?_
  unfold few at hx
  cases h1 : decide (xs.length ≤ 5) <;> cases h2 : Tr.ok xs <;> simp_all
theorem Am.all_few_b {xs ys : Tr} (hy : few ys = false) : Am.all xs ys = [] := by
  refine Am.all_no ?_
  unfold few at hy
  cases h1 : decide (ys.length ≤ 5) <;> cases h2 : Tr.ok ys <;> simp_all
set_option maxHeartbeats 800000 in
set_option maxRecDepth 100000 in
theorem rooted_gives {xs ys : Tr} {A A' : Option Addr} {n n' c c' n0 : Nat} (B1 B2 : Nat) (w0 : World) (hA : NdIn w0 n0 A n xs) (hB : NdIn w0 n0 A' n' ys) (hn : n ≤ 1048576) (hn' : n' ≤ 1048576) (hc : n ≤ c) (hc' : n' ≤ c') (hn0 : n0 ≤ w0.heap.size)
    (h1 : w0.cell? ⟨B1, 0, none⟩ = some (.slice A n c)) (h2 : w0.cell? ⟨B2, 0, none⟩ = some (.slice A' n' c')) :
    GivesAll Try.prog 77 n0 62 #[.pointer (some ⟨B1, 0, none⟩), .pointer (some ⟨B2, 0, none⟩)] (Am.all xs ys) w0 := by
  intro l J M W hW hJ hI hY hj
  have l1 : B1 < w0.heap.size := World.block_lt_of_cell? _ _ h1
  have l2 : B2 < w0.heap.size := World.block_lt_of_cell? _ _ h2
  have hA1 : NdIn W n0 A n xs := hA.below (hW.mono hn0)
  have hB1 : NdIn W n0 A' n' ys := hB.below (hW.mono hn0)
  have g1 : W.cell? ⟨B1, 0, none⟩ = some (.slice A n c) := (hW.cell (p := ⟨B1, 0, none⟩) l1).trans h1
  have g2 : W.cell? ⟨B2, 0, none⟩ = some (.slice A' n' c') := (hW.cell (p := ⟨B2, 0, none⟩) l2).trans h2
  have m1 : B1 < W.heap.size := Nat.lt_of_lt_of_le l1 hW.size
  have m2 : B2 < W.heap.size := Nat.lt_of_lt_of_le l2 hW.size
  have sz : n0 ≤ W.heap.size := Nat.le_trans hn0 hW.size
  have F1 : ∀ wq, Below W.heap.size W wq → Calls Try.prog 63 #[.slice A n c] wq fun e w' => e = .returned (.bool (few xs)) ∧ Below W.heap.size W w' ∧ w'.cell? ⟨B1, 0, none⟩ = some (.slice A n c) ∧ w'.cell? ⟨B2, 0, none⟩ = some (.slice A' n' c') := fun wq hb =>
    (fewEnough_any A n c xs wq ((hA1.below (hb.mono sz)).more (Nat.le_trans sz hb.size)) hn hc).mono (by
      rintro e w' ⟨rfl, hb'⟩
      have hb2 := hb.trans (hb'.mono hb.size)
      exact ⟨rfl, hb2, (hb2.cell (p := ⟨B1, 0, none⟩) m1).trans g1, (hb2.cell (p := ⟨B2, 0, none⟩) m2).trans g2⟩)
  have F2 : ∀ wq, Below W.heap.size W wq → Calls Try.prog 63 #[.slice A' n' c'] wq fun e w' => e = .returned (.bool (few ys)) ∧ Below W.heap.size W w' ∧ w'.cell? ⟨B1, 0, none⟩ = some (.slice A n c) ∧ w'.cell? ⟨B2, 0, none⟩ = some (.slice A' n' c') := fun wq hb =>
    (fewEnough_any A' n' c' ys wq ((hB1.below (hb.mono sz)).more (Nat.le_trans sz hb.size)) hn' hc').mono (by
      rintro e w' ⟨rfl, hb'⟩
      have hb2 := hb.trans (hb'.mono hb.size)
      exact ⟨rfl, hb2, (hb2.cell (p := ⟨B1, 0, none⟩) m1).trans g1, (hb2.cell (p := ⟨B2, 0, none⟩) m2).trans g2⟩)
  have EC : few xs = true → few ys = true → ∀ wq, Below W.heap.size W wq → Calls Try.prog 64 #[.slice A n c, .slice A' n' c', .slice (some ⟨wq.heap.size, 0, none⟩) 1 1, .int .i64 1, .func (.yield l) #[] #[]] (wq.alloc (.cells #[.int .i64 0, .int .i64 0] 77)) fun e w' => e = .returned (.bool true) ∧ J (Am.all xs ys) M w' ∧ Below n0 W w' := fun hx hy wq hb => by
    have ha := Am.all_few hx hy
    unfold few at hx hy
    simp only [Bool.and_eq_true, decide_eq_true_eq] at hx hy
    have nx := hA.1
    have ny := hB.1
    have x1 := (Tr.len24 hx.2).1
    have hb2 : Below W.heap.size W (wq.alloc (.cells #[.int .i64 0, .int .i64 0] 77)) := hb.alloc hb.size _
    have hb3 : Below n0 W (wq.alloc (.cells #[.int .i64 0, .int .i64 0] 77)) := hb2.mono sz
    have szq := hb.size
    refine (extend_any (xs := xs) (ys := ys) (n0 := n0) (all := Am.all xs ys) hJ hY hx.2 hy.2 nx.symm ny.symm hc hc' (xs.length - 1) 1 1 wq.heap.size 1 1 [(0, 0)] [] (fun q => M q ∨ q = wq.heap.size) _ (by omega) (Nat.le_refl _) rfl rfl (Nat.le_refl _) (Nat.le_refl _) rfl (Am.start_ok hx.2 hy.2)
      (hA1.below hb3) (hB1.below hb3) ?_ (.inr rfl) (fun q e => ?_) (hJ _ _ _ _ _ none hj (grown_of_below hb2 none) (fun r e => by cases e) (fun b e => e.imp id (by rintro rfl; exact szq))) (by rw [List.nil_append, ha]; exact List.prefix_refl _) (Nat.le_trans sz hb2.size)).mono ?_
    · exact World.ownsRow_lit wq #[.int .i64 0, .int .i64 0] 1 (by omega) (by decide) rfl
    · have := hb2.size
      rcases e with e | rfl
      · exact ⟨(hI q e).1, Nat.lt_of_lt_of_le (hI q e).2 this⟩
      · exact ⟨by omega, by simp⟩
    · rintro e w' ⟨he, h1, _, h3, _⟩
      rw [List.nil_append, ← ha] at h1
      exact ⟨he, hJ _ _ _ _ _ none h1 (Kit.grown_refl _ _) (fun r e => by cases e) (fun b e => .inl (.inl e)), hb3.trans h3⟩
  have JN : ∀ wq, Below W.heap.size W wq → Am.all xs ys = [] → J (Am.all xs ys) M wq ∧ Below n0 W wq := fun wq hb he => by
    rw [he]
    exact ⟨hJ _ _ _ _ _ none hj (grown_of_below hb none) (fun r e => by cases e) (fun b e => .inl e), hb.mono sz⟩
  have HB0 := Lib.hid (Below.refl W.heap.size W)
  have HF1 := Lib.hid F1
  have HF2 := Lib.hid F2
  have HEC := Lib.hid EC
  have HJN := Lib.hid JN
  clear F1 F2 EC JN hj hI hY hJ hA1 hB1 hA hB h1 h2 hW l1 l2 m1 m2
  show Calls Try.prog 62 #[.func (.yield l) #[] #[], .pointer (some ⟨B1, 0, none⟩), .pointer (some ⟨B2, 0, none⟩)] W _
  cases hx : few xs with
  | false =>
    have HN := Lib.hid (Am.all_few_a (ys := ys) hx)
    rw [hx] at HF1
    clear hx HEC HF2
    go_enter Try.func62, Try.ntmps62
    go_wp2_with (go_at_call 63; refine (HF1.out _ HB0.out).mono ?_; rintro e w2 ⟨rfl, hb2, k1, k2⟩; have HB2 := Lib.hid hb2; clear hb2)
    refine bodyPost_end (results_none rfl _ _ _) rfl ?_
    exact ⟨⟨_, rfl⟩, HJN.out _ HB2.out HN.out⟩
  | true =>
    cases hy : few ys with
    | false =>
      have HN := Lib.hid (Am.all_few_b (xs := xs) hy)
      rw [hx] at HF1
      rw [hy] at HF2
      clear hx hy HEC
      go_enter Try.func62, Try.ntmps62
      go_wp2_with (go_at_call 63; first | (refine (HF1.out _ HB0.out).mono ?_; clear HF1; rintro e w2 ⟨rfl, hb2, k1, k2⟩; have HB2 := Lib.hid hb2; clear hb2) | (refine (HF2.out _ HB2.out).mono ?_; rintro e w3 ⟨rfl, hb3, k3, k4⟩; have HB3 := Lib.hid hb3; clear hb3))
      refine bodyPost_end (results_none rfl _ _ _) rfl ?_
      exact ⟨⟨_, rfl⟩, HJN.out _ HB3.out HN.out⟩
    | true =>
      have HEC2 := Lib.hid (HEC.out hx hy)
      rw [hx] at HF1
      rw [hy] at HF2
      clear hx hy HEC HJN
      go_enter Try.func62, Try.ntmps62
      go_wp2_with (first
        | (go_at_call 63; first | (refine (HF1.out _ HB0.out).mono ?_; clear HF1; rintro e w2 ⟨rfl, hb2, k1, k2⟩; have HB2 := Lib.hid hb2; clear hb2) | (refine (HF2.out _ HB2.out).mono ?_; rintro e w3 ⟨rfl, hb3, k3, k4⟩; have HB3 := Lib.hid hb3; clear hb3))
        | (go_at_call 64; refine (HEC2.out _ HB3.out).mono ?_; rintro e w4 ⟨rfl, hx4⟩; have HX4 := Lib.hid hx4; clear hx4))
      refine bodyPost_end (results_none rfl _ _ _) rfl ?_
      exact ⟨⟨_, rfl⟩, HX4.out⟩
set_option maxHeartbeats 800000 in
set_option maxRecDepth 100000 in
theorem rooted_any {A A' : Option Addr} {n n' c c' : Nat} (w : World) :
    Calls Try.prog 31 #[.slice A n c, .slice A' n' c'] w fun e w' => e = .returned (.func (.func 62) #[] #[.pointer (some ⟨w.heap.size, 0, none⟩), .pointer (some ⟨w.heap.size + 1, 0, none⟩)]) ∧ w' = (w.alloc (.cells #[.slice A n c] 24)).alloc (.cells #[.slice A' n' c'] 24) := by
  go_enter Try.func31, Try.ntmps31
  go_wp2
  go_ret
  exact ⟨rfl, rfl⟩

end Go.Proofs.Ytnfjdlocmdgefaa

/- Contracts (Lcn). -/
namespace Go.Proofs.Ytnfjdlocmdgefaa
open Go.RowKit
set_option linter.unusedVariables false


theorem Mp.sum_nonneg {f : Nat → Int} (h : ∀ i, 0 ≤ f i) : ∀ n, 0 ≤ Mp.sum f n
  | 0 => Int.le_refl _
  | n + 1 => by
    have := Mp.sum_nonneg h n
    have := h n
    unfold Mp.sum
    omega
section
variable {xs ys : Tr} {k : Co}
theorem Mp.cost_nonneg {L : Tr} (h : Mp.ok xs ys L = true) (hk : Co.ok k = true) : 0 ≤ Mp.cost xs ys k L := by
  obtain ⟨d, i, r⟩ := Co.nonneg' k
  have a := Mp.sum_nonneg (f := Mp.gx xs ys k (L.take L.length)) (fun q => by unfold Mp.gx; split; exact (d _).1; exact (r _ _).1) xs.length
  have b := Mp.sum_nonneg (f := Mp.gy ys k (L.take L.length)) (fun q => by unfold Mp.gy; split; exact (i _).1; exact Int.le_refl _) ys.length
  unfold Mp.cost
  rw [h, hk, Bool.and_self, if_pos rfl]
  unfold Mp.part
  omega
theorem Am.out_neg (hk : Co.ok k = true) : ∀ i, i ≤ (Am.all xs ys).length → (Am.out xs ys k (Am.all xs ys) i < 0 ↔ i = 0)
  | 0, _ => by simp [Am.out]
  | i + 1, h => by
    obtain ⟨_, j, hj, e⟩ := Am.out_min (xs := xs) (ys := ys) (k := k) (Am.all xs ys) i
    have hjl : j < (Am.all xs ys).length := by omega
    rw [List.getD_eq_getElem?_getD, List.getElem?_eq_getElem hjl, Option.getD_some] at e
    have := Mp.cost_nonneg (Am.all_ok (List.getElem_mem hjl)).1 hk
    constructor
    · intro h'; omega
    · intro h'; omega
/-- one row more -/
theorem Am.out_next (hk : Co.ok k = true) {pre : List Tr} {x : Tr} (h : pre ++ [x] <+: Am.all xs ys) :
    Am.out xs ys k (Am.all xs ys) (pre ++ [x]).length = if Am.out xs ys k (Am.all xs ys) pre.length < 0 ∨ Mp.cost xs ys k x < Am.out xs ys k (Am.all xs ys) pre.length then Mp.cost xs ys k x else Am.out xs ys k (Am.all xs ys) pre.length := by
  obtain ⟨t, ht⟩ := h
  have hx : (Am.all xs ys).getD pre.length [] = x := by rw [← ht]; simp
  have hl : pre.length ≤ (Am.all xs ys).length := by rw [← ht]; simp
  rw [List.length_append, List.length_singleton, Am.out, hx]
  simp only [Am.out_neg hk _ hl]
theorem Am.all_small {L : Tr} (hL : L ∈ Am.all xs ys) : L.length ≤ 24 := by
  have h := (Am.all_ok hL).1
  have h1 := Mp.ok_iff.1 h
  exact Nat.le_trans (Mp.ok_len h) (Tr.len24 h1.1).2
end

end Go.Proofs.Ytnfjdlocmdgefaa

/- Contracts (LcS). -/
namespace Go.Proofs.Ytnfjdlocmdgefaa
open Go.RowKit
set_option linter.unusedVariables false


section
variable {wa wx wy : World} {s g i : Nat} {v0 v1 v2 v3 : Value}
/-- a cost's variable and one element of a row -/
def C4 (s g i : Nat) (v0 v1 v2 v3 : Value) (w : World) : Prop := (w.cell? ⟨s, 0, none⟩ = some v0 ∧ w.cell? ⟨s, 1, none⟩ = some v1 ∧ w.cell? ⟨s, 2, none⟩ = some v2) ∧ w.cell? ⟨g, i, none⟩ = some v3
theorem C4.below (h : C4 s g i v0 v1 v2 v3 wx) (hb : Below wx.heap.size wx wy) : C4 s g i v0 v1 v2 v3 wy :=
  have c : ∀ {p : Addr} {v : Value}, wx.cell? p = some v → wy.cell? p = some v := fun hc => (hb.cell (World.block_lt_of_cell? _ _ hc)).trans hc
  ⟨⟨c h.1.1, c h.1.2.1, c h.1.2.2⟩, c h.2⟩
theorem c4_below (h : ((wx.cell? ⟨s, 0, none⟩ = some v0 ∧ wx.cell? ⟨s, 1, none⟩ = some v1 ∧ wx.cell? ⟨s, 2, none⟩ = some v2) ∧ wx.cell? ⟨g, i, none⟩ = some v3) ∧ BelA wa wx) : Below wa.heap.size wa wx := h.2
theorem c4_keep (h : ((wx.cell? ⟨s, 0, none⟩ = some v0 ∧ wx.cell? ⟨s, 1, none⟩ = some v1 ∧ wx.cell? ⟨s, 2, none⟩ = some v2) ∧ wx.cell? ⟨g, i, none⟩ = some v3) ∧ BelA wa wx) (hb : Below wx.heap.size wx wy) :
    ((wy.cell? ⟨s, 0, none⟩ = some v0 ∧ wy.cell? ⟨s, 1, none⟩ = some v1 ∧ wy.cell? ⟨s, 2, none⟩ = some v2) ∧ wy.cell? ⟨g, i, none⟩ = some v3) ∧ BelA wa wy :=
  ⟨C4.below h.1 hb, h.2.trans (hb.mono h.2.size)⟩
end
set_option maxHeartbeats 800000 in
set_option maxRecDepth 100000 in
theorem specLeastCost_any (A A' K0 K1 K2 : Option Addr) (n n' n0 n1 n2 c c' c0 c1 c2 : Nat) (xs ys : Tr) (k : Co) (w : World) (ha : NdIn w w.heap.size A n xs) (hb : NdIn w w.heap.size A' n' ys) (hk : CoIn w w.heap.size K0 K1 K2 n0 n1 n2 k) (hn : n ≤ 1048576) (hn' : n' ≤ 1048576) (h0 : n0 ≤ 1048576) (h1 : n1 ≤ 1048576) (h2 : n2 ≤ 1048576) :
    Calls Try.prog 25 #[.slice A n c, .slice A' n' c', .agg #[.slice K0 n0 c0, .slice K1 n1 c1, .slice K2 n2 c2]] w fun e w' => e = .returned (.int .i64 (Am.least xs ys k)) ∧ Below w.heap.size w w' := by
  obtain ⟨wb, hwb⟩ : ∃ wb, wb = w.alloc (.cells #[.slice K0 n0 c0, .slice K1 n1 c1, .slice K2 n2 c2] 27) := ⟨_, rfl⟩
  have sb : wb.heap.size = w.heap.size + 1 := by rw [hwb]; simp
  have bb : Below w.heap.size w wb := by rw [hwb]; exact (Below.refl _ w).alloc (Nat.le_refl _) _
  have e0 : wb.cell? ⟨w.heap.size, 0, none⟩ = some (.slice K0 n0 c0) := by rw [hwb]; simp
  have e1 : wb.cell? ⟨w.heap.size, 1, none⟩ = some (.slice K1 n1 c1) := by rw [hwb]; simp
  have e2 : wb.cell? ⟨w.heap.size, 2, none⟩ = some (.slice K2 n2 c2) := by rw [hwb]; simp
  have MS := Lib.hid ((specMapsOf_any (xs := xs) (ys := ys) (A := A) (A' := A') (n := n) (n' := n') (c := c) (c' := c') wb (ha.to_below bb) (hb.to_below bb) hn hn').mono (R' := fun e w' => ∃ Av m cv, e = .returned (.slice Av m cv) ∧ Hid (m = (Am.all xs ys).length ∧ ∃ vs, vs.length = m ∧ RowsP w' wb.heap.size (.slice Av m cv) vs (Am.all xs ys) ∧ Below wb.heap.size wb w')) (by
    rintro e w' ⟨v, vs, rfl, h, hb⟩
    obtain ⟨Av, cv, rfl⟩ := own_slice h.1
    exact ⟨Av, vs.length, cv, rfl, Lib.hid ⟨h.2.1, vs, rfl, h, hb⟩⟩))
  have AL := Lib.hid (Am.all_len (xs := xs) (ys := ys))
  have OA := Lib.hid (Am.out_all (xs := xs) (ys := ys) (k := k))
  have HW := Lib.hid hwb
  have HSB := Lib.hid sb
  have HBB := Lib.hid bb
  have HE := Lib.hid (And.intro e0 (And.intro e1 e2))
  have HA := Lib.hid ha
  have HB := Lib.hid hb
  have HK := Lib.hid hk
  clear ha hb hk hwb sb bb e0 e1 e2
  go_enter Try.func25, Try.ntmps25
  go_wp2_with (go_at_call 16; rw [← HW.out]; refine MS.out.mono ?_; rintro e wl ⟨Av, m, cv, rfl, hl⟩)
  have hm : m ≤ 3125 := by rw [hl.out.1]; exact AL.out
  go_loopw [9, 7] (fun iv ov wr => ∃ i : Nat, i ≤ m ∧ iv = .int .i64 (i : Int) ∧ Hid (ov = .int .i64 (Am.out xs ys k (Am.all xs ys) i) ∧ Below wl.heap.size wl wr)) (fun iv _ _ => m - (intOf iv).toNat)
  case atStart => exact ⟨0, Nat.zero_le _, rfl, Lib.hid ⟨rfl, Below.refl _ _⟩⟩
  case round =>
    obtain ⟨i, hi, hiv, hr⟩ := hrel
    subst hiv
    obtain ⟨o, ho⟩ : ∃ o, o = Am.out xs ys k (Am.all xs ys) i := ⟨_, rfl⟩
    have hov := hr.out.1
    rw [← ho] at hov
    subst hov
    have HO := Lib.hid ho
    clear ho
    by_cases hlt : i < m
    · obtain ⟨hml, vs, hvl, hR, hBl⟩ := hl.out
      have hBr := hr.out.2
      have hRr := hR.below hBr
      have hR1 := hRr.1
      rw [hvl] at hR1
      obtain ⟨g, rfl, hg1, hg2⟩ := own_form hR1 (by omega)
      have ri := hRr.2.2 i (by omega)
      obtain ⟨Ai, ci, hvi⟩ := own_slice ri
      rw [hvi] at ri
      have cell3 : wr.cell? ⟨g, i, none⟩ = some (.slice Ai ((Am.all xs ys).getD i []).length ci) := by
        have := row_src hR1 i _ (List.getElem?_eq_getElem (by omega : i < vs.length))
        have ha : (⟨g, 0, none⟩ : Addr).add i = ⟨g, i, none⟩ := by simp only [Addr.add]; split <;> simp_all
        rw [ha] at this
        rw [this, ← hvi, List.getD_eq_getElem?_getD, List.getElem?_eq_getElem (by omega : i < vs.length)]
        rfl
      have bw : Below wb.heap.size wb wr := hBl.trans (hBr.mono hBl.size)
      have c40 : C4 w.heap.size g i (.slice K0 n0 c0) (.slice K1 n1 c1) (.slice K2 n2 c2) (.slice Ai ((Am.all xs ys).getD i []).length ci) wr :=
        ⟨⟨(bw.cell (p := ⟨w.heap.size, 0, none⟩) (by rw [HSB.out]; exact Nat.lt_succ_self _)).trans HE.out.1, (bw.cell (p := ⟨w.heap.size, 1, none⟩) (by rw [HSB.out]; exact Nat.lt_succ_self _)).trans HE.out.2.1, (bw.cell (p := ⟨w.heap.size, 2, none⟩) (by rw [HSB.out]; exact Nat.lt_succ_self _)).trans HE.out.2.2⟩, cell3⟩
      have bw0 : Below w.heap.size w wr := HBB.out.trans (bw.mono HBB.out.size)
      have hmem : (Am.all xs ys).getD i [] ∈ Am.all xs ys := by
        rw [List.getD_eq_getElem?_getD, List.getElem?_eq_getElem (by omega : i < (Am.all xs ys).length)]
        exact List.getElem_mem _
      have hl24 := Am.all_small hmem
      have QM := Lib.hid (fun (wq : World) (hb : Below wr.heap.size wr wq) => specMapCost_any A A' Ai K0 K1 K2 n n' ((Am.all xs ys).getD i []).length n0 n1 n2 c c' ci c0 c1 c2 xs ys _ k wq ((HA.out.to_below bw0).to_below hb) ((HB.out.to_below bw0).to_below hb) ((HK.out.to_below bw0).to_below hb) ((NdIn.of_own ri).to_below hb) hn hn' (by omega) h0 h1 h2)
      obtain ⟨q, hq⟩ : ∃ q, q = Mp.cost xs ys k ((Am.all xs ys).getD i []) := ⟨_, rfl⟩
      rw [← hq] at QM
      have nx : Am.out xs ys k (Am.all xs ys) (i + 1) = if i = 0 ∨ q < o then q else o := by rw [HO.out, hq, Am.out]
      obtain ⟨li, hli⟩ : ∃ li, li = ((Am.all xs ys).getD i []).length := ⟨_, rfl⟩
      rw [← hli] at QM c40
      have hBR := Lib.hid hBr
      have S0 := Lib.hid (show ((wr.drew.cell? ⟨w.heap.size, 0, none⟩ = some (.slice K0 n0 c0) ∧ wr.drew.cell? ⟨w.heap.size, 1, none⟩ = some (.slice K1 n1 c1) ∧ wr.drew.cell? ⟨w.heap.size, 2, none⟩ = some (.slice K2 n2 c2)) ∧ wr.drew.cell? ⟨g, i, none⟩ = some (.slice Ai li ci)) ∧ BelA wr wr.drew from ⟨c40, (Drawn.refl _).drew.toBelow⟩)
      have HM := Lib.hid (show m = vs.length from hvl.symm)
      clear hR1 hl24 hmem bw0 c40 bw cell3 hvi ri hRr hBr hR hBl hml hvl hli hq hg1 hg2 hr
      have hiI : (i : Int) < (m : Int) := by omega
      have hi0 : (0 : Int) ≤ (i : Int) := by omega
      go_wp2_with fail
      go_region_held3 (fun wq => ((wq.cell? ⟨w.heap.size, 0, none⟩ = some (.slice K0 n0 c0) ∧ wq.cell? ⟨w.heap.size, 1, none⟩ = some (.slice K1 n1 c1) ∧ wq.cell? ⟨w.heap.size, 2, none⟩ = some (.slice K2 n2 c2)) ∧ wq.cell? ⟨g, i, none⟩ = some (.slice Ai li ci)) ∧ BelA wr wq) (first | (with_reducible exact SC) | (with_reducible exact S0.out)) (first | ((go_at_call 51; with_reducible refine (QM.out _ (c4_below (by assumption))).mono ?_); rintro e w5 ⟨rfl, hb5⟩; have SC := c4_keep (by assumption) hb5))
      have HW5 := Lib.hid (hBR.out.trans ((c4_below SC).mono hBR.out.size))
      clear SC S0 QM
      by_cases ci : i = 0
      · have q1 : ((i : Int) == 0) = true := by simp [ci]
        have HN := Lib.hid (nx.trans (if_pos (.inl ci)))
        clear nx ci
        go_wp2
        go_roundw
        case rel => exact ⟨i + 1, by omega, by go_num, Lib.hid ⟨by rw [HN.out], HW5.out⟩⟩
        case measure => simp [intOf]; omega
      · have q1 : ((i : Int) == 0) = false := by simpa using ci
        by_cases cq : q < o
        · have q2 : decide (q < o) = true := decide_eq_true cq
          have HN := Lib.hid (nx.trans (if_pos (.inr cq)))
          clear nx ci cq
          go_wp2
          go_roundw
          case rel => exact ⟨i + 1, by omega, by go_num, Lib.hid ⟨by rw [HN.out], HW5.out⟩⟩
          case measure => simp [intOf]; omega
        · have q2 : decide (q < o) = false := decide_eq_false cq
          have HN := Lib.hid (nx.trans (if_neg (by omega)))
          clear nx ci cq
          go_wp2
          go_roundw
          case rel => exact ⟨i + 1, by omega, by go_num, Lib.hid ⟨by rw [HN.out], HW5.out⟩⟩
          case measure => simp [intOf]; omega
    · obtain rfl : i = m := by omega
      have HX := Lib.hid (show Am.least xs ys k = o by rw [HO.out, hl.out.1, OA.out])
      obtain ⟨_, vs, _, _, hBl⟩ := hl.out
      have HZ := Lib.hid (HBB.out.trans ((hBl.trans (hr.out.2.mono hBl.size)).mono HBB.out.size))
      clear hBl
      go_wp2
      go_ret
      exact ⟨by rw [HX.out]; rfl, HZ.out⟩

end Go.Proofs.Ytnfjdlocmdgefaa

/- Contracts (Rgn). -/
namespace Go.Proofs.Ytnfjdlocmdgefaa
open Go.RowKit
set_option linter.unusedVariables false

section
variable {P : Program} {md : Region.Mode} {ops : Array Oper} {Q : Exit → Act → World → Prop} {S : World → Prop} {i fuel : Nat} {oi : Oper} {rest : List Oper} {listed : Array Bool} {a : Act} {w : World}
theorem rg_at (hd : ops.toList.drop i = oi :: rest) : ops[i]? = some oi := by
  have h : (ops.toList.drop i)[0]? = some oi := by rw [hd]; rfl
  rw [List.getElem?_drop] at h
  simpa using h
/-- an operation of a region that draws, not wanted: passed over first -/
theorem rg_skip (hd : ops.toList.drop i = oi :: rest) (hs : Region.noSelect ops = true) (hf : Region.free md ops listed i = true) (hr : (Region.ready md ops listed).contains i = true)
    (hQ : ∀ c a w, Q (.panic c) (a.put oi.dst undef) w → Q (.panic c) a w) (hw : Region.wanted oi (yielded ops a.tmps) = false) (hS : S w)
    (h : wpAnyH P md ops Q S fuel (listed.setIfInBounds i true) (a.put oi.dst undef) w) : wpAnyH P md ops Q S (fuel + 1) listed a w :=
  wpAnyH_take (rg_at hd) hs hf hr hQ (.inr ⟨hw, rfl⟩) hS h
/-- .. wanted: taken first -/
theorem rg_take {v : Value} (hd : ops.toList.drop i = oi :: rest) (hs : Region.noSelect ops = true) (hf : Region.free md ops listed i = true) (hr : (Region.ready md ops listed).contains i = true)
    (hQ : ∀ c a w, Q (.panic c) (a.put oi.dst v) w → Q (.panic c) a w) (hw : Region.wanted oi (yielded ops a.tmps) = true) (hy : ∀ w, S w → (execOp a.eval oi).run P w = .ok (.value v) w) (hS : S w)
    (h : wpAnyH P md ops Q S fuel (listed.setIfInBounds i true) (a.put oi.dst v) w) : wpAnyH P md ops Q S (fuel + 1) listed a w :=
  wpAnyH_take (rg_at hd) hs hf hr hQ (.inl ⟨hw, hy⟩) hS h
/-- .. the one that may come up now -/
theorem rg_one (hd : ops.toList.drop i = oi :: rest) (hr : Region.ready md ops listed = [i])
    (h : ∀ K' : Act → World → Prop, Shut (∀ a w, S w → (S w → wpAnyH P md ops Q S fuel (listed.setIfInBounds i true) a w) → K' a w) → if Region.wanted oi (yielded ops a.tmps) = true then Oper.wp P oi a w K' Q else K' (a.put oi.dst undef) w) : wpAnyH P md ops Q S (fuel + 1) listed a w :=
  wpAnyH_ready hr (by simp) (AllReadyH.cons (rg_at hd) h AllReadyH.nil)
end

end Go.Proofs.Ytnfjdlocmdgefaa

/- Contracts (MapI). -/
namespace Go.Proofs.Ytnfjdlocmdgefaa
open Go.RowKit
set_option linter.unusedVariables false

set_option maxHeartbeats 3200000 in
set_option maxRecDepth 100000 in
theorem implMapOk_any (A A' A'' : Option Addr) (n n' n'' c c' c'' : Nat) (xs ys ms : Tr) (w : World) (h : NdIn w w.heap.size A n xs) (h' : NdIn w w.heap.size A' n' ys) (h'' : NdIn w w.heap.size A'' n'' ms) (hn : n ≤ 1048576) (hn' : n' ≤ 1048576) (hn'' : n'' ≤ 1048576) (hc : n ≤ c) (hc' : n' ≤ c') (hc'' : n'' ≤ c'') :
    Calls Try.prog 38 #[.slice A n c, .slice A' n' c', .slice A'' n'' c''] w fun e w' => e = .returned (.bool (Mp.ok xs ys ms)) ∧ Below w.heap.size w w' := by
  have H := Lib.hid h
  have H' := Lib.hid h'
  have H2 := Lib.hid h''
  clear h h' h''
  have HL := Lib.hid H2.out.1
  obtain ⟨o1, ho1⟩ : ∃ b, b = Tr.ok xs := ⟨_, rfl⟩
  obtain ⟨o2, ho2⟩ : ∃ b, b = Tr.ok ys := ⟨_, rfl⟩
  have C1 := Lib.hid (show Calls Try.prog 69 #[.slice A n c] w fun e w' => e = .returned (.bool o1) ∧ Below w.heap.size w w' from by rw [ho1]; exact implTreeOk_any _ _ _ xs _ H.out hn hc)
  have C2 := Lib.hid (fun (wq : World) (hq : Below w.heap.size w wq) => show Calls Try.prog 69 #[.slice A' n' c'] wq fun e w' => e = .returned (.bool o2) ∧ Below wq.heap.size wq w' from by rw [ho2]; exact implTreeOk_any _ _ _ ys _ (H'.out.to_below hq) hn' hc')
  have HO1 := Lib.hid ho1
  have HO2 := Lib.hid ho2
  clear ho1 ho2
  cases o1 with
  | false =>
    have hf := Lib.hid (show Mp.ok xs ys ms = false by unfold Mp.ok; rw [← HO1.out]; rfl)
    as_aux_lemma =>
      go_enter Try.func38, Try.ntmps38
      go_wp2_with fail
      refine C1.out.mono ?_
      rintro e w1 ⟨rfl, hb1⟩
      go_wp2
      go_ret
      exact ⟨Kit.ret_bool hf.out.symm, hb1⟩
  | true =>
    cases o2 with
    | false =>
      have hf := Lib.hid (show Mp.ok xs ys ms = false by unfold Mp.ok; rw [← HO2.out, Bool.and_false]; rfl)
      as_aux_lemma =>
        go_enter Try.func38, Try.ntmps38
        go_wp2_with fail
        refine C1.out.mono ?_
        rintro e w1 ⟨rfl, hb1⟩
        have HB := Lib.hid hb1
        clear hb1
        go_wp2_with fail
        refine (C2.out _ HB.out).mono ?_
        rintro e w2 ⟨rfl, hb2⟩
        have HE := Lib.hid (HB.out.trans (hb2.mono HB.out.size))
        clear hb2
        go_wp2
        go_ret
        exact ⟨Kit.ret_bool hf.out.symm, HE.out⟩
    | true =>
      go_enter Try.func38, Try.ntmps38
      go_wp2_with fail
      refine C1.out.mono ?_
      rintro e w1 ⟨rfl, hb1⟩
      have HB := Lib.hid hb1
      clear hb1
      go_wp2_with fail
      refine (C2.out _ HB.out).mono ?_
      rintro e w2 ⟨rfl, hb2⟩
      have HB0 := Lib.hid (HB.out.trans (hb2.mono HB.out.size))
      clear hb2 HB
      go_wp2
      go_loopw [19] (fun iv wr => ∃ k : Nat, k ≤ n'' ∧ iv = .int .i64 k ∧ (∀ q, q < k → Mp.okAt xs ys ms q = true) ∧ Below w.heap.size w wr) (fun i _ => n'' - (intOf i).toNat)
      case atStart => exact ⟨0, by omega, rfl, fun q hq => absurd hq (by omega), HB0.out⟩
      case round =>
        obtain ⟨k, hk, rfl, hgood, hB⟩ := hrel
        have HG := Lib.hid hgood
        clear hgood
        by_cases hlt : k < n''
        · obtain ⟨ad, rfl, hb, hl, hd⟩ := (H2.out.below hB).at_ (k := k) hlt
          have hk0 : (0 : Int) ≤ (k : Int) := by omega
          have hklt : (k : Int) < (n'' : Int) := by omega
          have hkc : (k : Int) ≤ (c'' : Int) := by omega
          have HK := Lib.hid (show k < ms.length by rw [HL.out]; exact hlt)
          obtain ⟨wz, hwz⟩ : ∃ wz, wz = wr.alloc (.cells #[.int .i64 (Tr.l ms k), .int .i64 (Tr.d ms k)] 77) := ⟨_, rfl⟩
          have BZ := Lib.hid (show Below wr.heap.size wr wz by rw [hwz]; exact (Below.refl _ _).alloc (Nat.le_refl _) _)
          have HQ := Lib.hid (show Bx2 wz wr.heap.size (Tr.l ms k) (Tr.d ms k) by rw [hwz]; exact Bx2.made _ _ _ _)
          have HB := Lib.hid (hB.trans (BZ.out.mono hB.size))
          have HZ := Lib.hid hwz
          have HS := Lib.hid (show w.heap.size ≤ wz.heap.size from HB.out.size)
          clear hwz hB
          obtain ⟨b1, hb1⟩ : ∃ b, b = Tr.has xs (Tr.l ms k) := ⟨_, rfl⟩
          obtain ⟨b2, hb2⟩ : ∃ b, b = Tr.has ys (Tr.d ms k) := ⟨_, rfl⟩
          obtain ⟨b3, hb3⟩ : ∃ b, b = Mp.after xs ys ms k (Tr.l ms k) (Tr.d ms k) := ⟨_, rfl⟩
          have QA := Lib.hid (fun (wq : World) (hq : Below wz.heap.size wz wq) => show Calls Try.prog 70 #[.slice A n c, .int .i64 (Tr.l ms k)] wq fun e w' => e = .returned (.bool b1) ∧ Below wq.heap.size wq w' from by rw [hb1]; exact hasNode_any _ _ _ xs _ _ (H.out.to_below (HB.out.trans (hq.mono HS.out))) hn hc)
          have QB := Lib.hid (fun (wq : World) (hq : Below wz.heap.size wz wq) => show Calls Try.prog 70 #[.slice A' n' c', .int .i64 (Tr.d ms k)] wq fun e w' => e = .returned (.bool b2) ∧ Below wq.heap.size wq w' from by rw [hb2]; exact hasNode_any _ _ _ ys _ _ (H'.out.to_below (HB.out.trans (hq.mono HS.out))) hn' hc')
          have QC := Lib.hid (fun (wq : World) (hq : Below wz.heap.size wz wq) => show Calls Try.prog 71 #[.slice A n c, .slice A' n' c', .slice (some ad) k c'', .agg #[.int .i64 (Tr.l ms k), .int .i64 (Tr.d ms k)]] wq fun e w' => e = .returned (.bool b3) ∧ Below wq.heap.size wq w' from by
            rw [hb3, ← Mp.after_take]
            exact pairFits_any _ _ _ _ _ _ _ _ _ xs ys (ms.take k) _ _ _ (H.out.to_below (HB.out.trans (hq.mono HS.out))) (H'.out.to_below (HB.out.trans (hq.mono HS.out))) ((H2.out.to_below (HB.out.trans (hq.mono HS.out))).head hk) hn hn' (by omega) hc hc')
          have HB1 := Lib.hid hb1
          have HB2 := Lib.hid hb2
          have HB3 := Lib.hid hb3
          clear hb1 hb2 hb3
          cases b1 with
          | false =>
            have hf := Lib.hid (Mp.ok_no HK.out (Mp.no_a HB1.out.symm) : Mp.ok xs ys ms = false)
            as_aux_lemma =>
              go_wp2_with fail
              rw [← HZ.out]
              have S0 : (wz.drew.cell? ⟨wr.heap.size, 0, none⟩ = some (.int .i64 (Tr.l ms k)) ∧ wz.drew.cell? ⟨wr.heap.size, 1, none⟩ = some (.int .i64 (Tr.d ms k))) ∧ BelA wz wz.drew := ⟨⟨HQ.out.1, HQ.out.2⟩, (Drawn.refl _).drew.toBelow⟩
              refine wp_region_held_drew (S := (fun wq => (wq.cell? ⟨wr.heap.size, 0, none⟩ = some (.int .i64 (Tr.l ms k)) ∧ wq.cell? ⟨wr.heap.size, 1, none⟩ = some (.int .i64 (Tr.d ms k))) ∧ BelA wz wq)) (by kernel_rfl) S0 (fun hHeld => ?_)
              refine rg_take (i := 0) (v := ?_) rfl (by kernel_rfl) (by kernel_rfl) (by kernel_rfl) (fun _ _ _ h => h) (by rfl) ?_ (by assumption) ?_
              rotate_left
              · intro w hSw
                (try dsimp only at hSw)
                go_simp
                (try with_reducible rfl)
              (try simp only [Act.put, List.setIfInBounds_toArray, List.set_cons_zero, List.set_cons_succ])
              refine rg_take (i := 1) (v := ?_) rfl (by kernel_rfl) (by kernel_rfl) (by kernel_rfl) (fun _ _ _ h => h) (by rfl) ?_ (by assumption) ?_
              rotate_left
              · intro w hSw
                (try dsimp only at hSw)
                go_simp
                (try with_reducible rfl)
              (try simp only [Act.put, List.setIfInBounds_toArray, List.set_cons_zero, List.set_cons_succ])
              refine rg_take (i := 2) (v := ?_) rfl (by kernel_rfl) (by kernel_rfl) (by kernel_rfl) (fun _ _ _ h => h) (by rfl) ?_ (by assumption) ?_
              rotate_left
              · intro w hSw
                (try dsimp only at hSw)
                go_simp
                (try with_reducible rfl)
              (try simp only [Act.put, List.setIfInBounds_toArray, List.set_cons_zero, List.set_cons_succ])
              refine rg_one (i := 3) rfl (by kernel_rfl) (fun K hK => ?_)
              go_simp
              go_at_call 70
              refine (QA.out _ (p2_below (by assumption))).mono ?_
              rintro e w5 ⟨rfl, hb5⟩
              have SC := p2_keep (by assumption) hb5
              go_wp2_with fail
              refine hK.out _ _ SC (fun hHeld => ?_)
              clear hK K
              (try simp only [Act.put, List.setIfInBounds_toArray, List.set_cons_zero, List.set_cons_succ])
              refine rg_take (i := 4) (v := ?_) rfl (by kernel_rfl) (by kernel_rfl) (by kernel_rfl) (fun _ _ _ h => h) (by rfl) ?_ (by assumption) ?_
              rotate_left
              · intro w hSw
                (try dsimp only at hSw)
                go_simp
                (try with_reducible rfl)
              (try simp only [Act.put, List.setIfInBounds_toArray, List.set_cons_zero, List.set_cons_succ])
              refine rg_take (i := 5) (v := ?_) rfl (by kernel_rfl) (by kernel_rfl) (by kernel_rfl) (fun _ _ _ h => h) (by rfl) ?_ (by assumption) ?_
              rotate_left
              · intro w hSw
                (try dsimp only at hSw)
                go_simp
                (try with_reducible rfl)
              (try simp only [Act.put, List.setIfInBounds_toArray, List.set_cons_zero, List.set_cons_succ])
              refine rg_skip (i := 6) rfl (by kernel_rfl) (by kernel_rfl) (by kernel_rfl) (fun _ _ _ h => h) (by rfl) (by assumption) ?_
              (try simp only [Act.put, List.setIfInBounds_toArray, List.set_cons_zero, List.set_cons_succ])
              refine rg_skip (i := 7) rfl (by kernel_rfl) (by kernel_rfl) (by kernel_rfl) (fun _ _ _ h => h) (by rfl) (by assumption) ?_
              (try simp only [Act.put, List.setIfInBounds_toArray, List.set_cons_zero, List.set_cons_succ])
              refine rg_skip (i := 8) rfl (by kernel_rfl) (by kernel_rfl) (by kernel_rfl) (fun _ _ _ h => h) (by rfl) (by assumption) ?_
              (try simp only [Act.put, List.setIfInBounds_toArray, List.set_cons_zero, List.set_cons_succ])
              refine rg_skip (i := 9) rfl (by kernel_rfl) (by kernel_rfl) (by kernel_rfl) (fun _ _ _ h => h) (by rfl) (by assumption) ?_
              (try simp only [Act.put, List.setIfInBounds_toArray, List.set_cons_zero, List.set_cons_succ])
              refine rg_skip (i := 10) rfl (by kernel_rfl) (by kernel_rfl) (by kernel_rfl) (fun _ _ _ h => h) (by rfl) (by assumption) ?_
              (try simp only [Act.put, List.setIfInBounds_toArray, List.set_cons_zero, List.set_cons_succ])
              refine rg_take (i := 11) (v := ?_) rfl (by kernel_rfl) (by kernel_rfl) (by kernel_rfl) (fun _ _ _ h => h) (by rfl) ?_ (by assumption) ?_
              rotate_left
              · intro w hSw
                (try dsimp only at hSw)
                go_simp
                (try with_reducible rfl)
              (try simp only [Act.put, List.setIfInBounds_toArray, List.set_cons_zero, List.set_cons_succ])
              refine rg_take (i := 12) (v := ?_) rfl (by kernel_rfl) (by kernel_rfl) (by kernel_rfl) (fun _ _ _ h => h) (by rfl) ?_ (by assumption) ?_
              rotate_left
              · intro w hSw
                (try dsimp only at hSw)
                go_simp
                (try with_reducible rfl)
              (try simp only [Act.put, List.setIfInBounds_toArray, List.set_cons_zero, List.set_cons_succ])
              refine rg_skip (i := 13) rfl (by kernel_rfl) (by kernel_rfl) (by kernel_rfl) (fun _ _ _ h => h) (by rfl) (by assumption) ?_
              (try simp only [Act.put, List.setIfInBounds_toArray, List.set_cons_zero, List.set_cons_succ])
              refine rg_skip (i := 14) rfl (by kernel_rfl) (by kernel_rfl) (by kernel_rfl) (fun _ _ _ h => h) (by rfl) (by assumption) ?_
              (try simp only [Act.put, List.setIfInBounds_toArray, List.set_cons_zero, List.set_cons_succ])
              refine rg_skip (i := 15) rfl (by kernel_rfl) (by kernel_rfl) (by kernel_rfl) (fun _ _ _ h => h) (by rfl) (by assumption) ?_
              (try simp only [Act.put, List.setIfInBounds_toArray, List.set_cons_zero, List.set_cons_succ])
              refine rg_skip (i := 16) rfl (by kernel_rfl) (by kernel_rfl) (by kernel_rfl) (fun _ _ _ h => h) (by rfl) (by assumption) ?_
              (try simp only [Act.put, List.setIfInBounds_toArray, List.set_cons_zero, List.set_cons_succ])
              refine rg_skip (i := 17) rfl (by kernel_rfl) (by kernel_rfl) (by kernel_rfl) (fun _ _ _ h => h) (by rfl) (by assumption) ?_
              (try simp only [Act.put, List.setIfInBounds_toArray, List.set_cons_zero, List.set_cons_succ])
              refine rg_skip (i := 18) rfl (by kernel_rfl) (by kernel_rfl) (by kernel_rfl) (fun _ _ _ h => h) (by rfl) (by assumption) ?_
              (try simp only [Act.put, List.setIfInBounds_toArray, List.set_cons_zero, List.set_cons_succ])
              refine rg_skip (i := 19) rfl (by kernel_rfl) (by kernel_rfl) (by kernel_rfl) (fun _ _ _ h => h) (by rfl) (by assumption) ?_
              (try simp only [Act.put, List.setIfInBounds_toArray, List.set_cons_zero, List.set_cons_succ])
              refine rg_skip (i := 20) rfl (by kernel_rfl) (by kernel_rfl) (by kernel_rfl) (fun _ _ _ h => h) (by rfl) (by assumption) ?_
              (try simp only [Act.put, List.setIfInBounds_toArray, List.set_cons_zero, List.set_cons_succ])
              refine rg_take (i := 21) (v := ?_) rfl (by kernel_rfl) (by kernel_rfl) (by kernel_rfl) (fun _ _ _ h => h) (by rfl) ?_ (by assumption) ?_
              rotate_left
              · intro w hSw
                (try dsimp only at hSw)
                go_simp
                (try with_reducible rfl)
              (try simp only [Act.put, List.setIfInBounds_toArray, List.set_cons_zero, List.set_cons_succ])
              refine wpAnyH_done (by kernel_rfl) ?_ _
              have HE := Lib.hid (HB.out.trans ((p2_below SC).mono HB.out.size))
              go_wp2
              go_ret
              exact ⟨Kit.ret_bool hf.out.symm, HE.out⟩
          | true =>
            cases b2 with
            | false =>
              have hf := Lib.hid (Mp.ok_no HK.out (Mp.no_b HB2.out.symm) : Mp.ok xs ys ms = false)
              as_aux_lemma =>
                go_wp2_with fail
                rw [← HZ.out]
                have S0 : (wz.drew.cell? ⟨wr.heap.size, 0, none⟩ = some (.int .i64 (Tr.l ms k)) ∧ wz.drew.cell? ⟨wr.heap.size, 1, none⟩ = some (.int .i64 (Tr.d ms k))) ∧ BelA wz wz.drew := ⟨⟨HQ.out.1, HQ.out.2⟩, (Drawn.refl _).drew.toBelow⟩
                refine wp_region_held_drew (S := (fun wq => (wq.cell? ⟨wr.heap.size, 0, none⟩ = some (.int .i64 (Tr.l ms k)) ∧ wq.cell? ⟨wr.heap.size, 1, none⟩ = some (.int .i64 (Tr.d ms k))) ∧ BelA wz wq)) (by kernel_rfl) S0 (fun hHeld => ?_)
                refine rg_take (i := 0) (v := ?_) rfl (by kernel_rfl) (by kernel_rfl) (by kernel_rfl) (fun _ _ _ h => h) (by rfl) ?_ (by assumption) ?_
                rotate_left
                · intro w hSw
                  (try dsimp only at hSw)
                  go_simp
                  (try with_reducible rfl)
                (try simp only [Act.put, List.setIfInBounds_toArray, List.set_cons_zero, List.set_cons_succ])
                refine rg_take (i := 1) (v := ?_) rfl (by kernel_rfl) (by kernel_rfl) (by kernel_rfl) (fun _ _ _ h => h) (by rfl) ?_ (by assumption) ?_
                rotate_left
                · intro w hSw
                  (try dsimp only at hSw)
                  go_simp
                  (try with_reducible rfl)
                (try simp only [Act.put, List.setIfInBounds_toArray, List.set_cons_zero, List.set_cons_succ])
                refine rg_take (i := 2) (v := ?_) rfl (by kernel_rfl) (by kernel_rfl) (by kernel_rfl) (fun _ _ _ h => h) (by rfl) ?_ (by assumption) ?_
                rotate_left
                · intro w hSw
                  (try dsimp only at hSw)
                  go_simp
                  (try with_reducible rfl)
                (try simp only [Act.put, List.setIfInBounds_toArray, List.set_cons_zero, List.set_cons_succ])
                refine rg_one (i := 3) rfl (by kernel_rfl) (fun K hK => ?_)
                go_simp
                go_at_call 70
                refine (QA.out _ (p2_below (by assumption))).mono ?_
                rintro e w5 ⟨rfl, hb5⟩
                have SC := p2_keep (by assumption) hb5
                go_wp2_with fail
                refine hK.out _ _ SC (fun hHeld => ?_)
                clear hK K
                (try simp only [Act.put, List.setIfInBounds_toArray, List.set_cons_zero, List.set_cons_succ])
                refine rg_take (i := 4) (v := ?_) rfl (by kernel_rfl) (by kernel_rfl) (by kernel_rfl) (fun _ _ _ h => h) (by rfl) ?_ (by assumption) ?_
                rotate_left
                · intro w hSw
                  (try dsimp only at hSw)
                  go_simp
                  (try with_reducible rfl)
                (try simp only [Act.put, List.setIfInBounds_toArray, List.set_cons_zero, List.set_cons_succ])
                refine rg_take (i := 5) (v := ?_) rfl (by kernel_rfl) (by kernel_rfl) (by kernel_rfl) (fun _ _ _ h => h) (by rfl) ?_ (by assumption) ?_
                rotate_left
                · intro w hSw
                  (try dsimp only at hSw)
                  go_simp
                  (try with_reducible rfl)
                (try simp only [Act.put, List.setIfInBounds_toArray, List.set_cons_zero, List.set_cons_succ])
                refine rg_take (i := 6) (v := ?_) rfl (by kernel_rfl) (by kernel_rfl) (by kernel_rfl) (fun _ _ _ h => h) (by rfl) ?_ (by assumption) ?_
                rotate_left
                · intro w hSw
                  (try dsimp only at hSw)
                  go_simp
                  (try with_reducible rfl)
                (try simp only [Act.put, List.setIfInBounds_toArray, List.set_cons_zero, List.set_cons_succ])
                refine rg_take (i := 7) (v := ?_) rfl (by kernel_rfl) (by kernel_rfl) (by kernel_rfl) (fun _ _ _ h => h) (by rfl) ?_ (by assumption) ?_
                rotate_left
                · intro w hSw
                  (try dsimp only at hSw)
                  go_simp
                  (try with_reducible rfl)
                (try simp only [Act.put, List.setIfInBounds_toArray, List.set_cons_zero, List.set_cons_succ])
                refine rg_take (i := 8) (v := ?_) rfl (by kernel_rfl) (by kernel_rfl) (by kernel_rfl) (fun _ _ _ h => h) (by rfl) ?_ (by assumption) ?_
                rotate_left
                · intro w hSw
                  (try dsimp only at hSw)
                  go_simp
                  (try with_reducible rfl)
                (try simp only [Act.put, List.setIfInBounds_toArray, List.set_cons_zero, List.set_cons_succ])
                refine rg_one (i := 9) rfl (by kernel_rfl) (fun K hK => ?_)
                go_simp
                go_at_call 70
                refine (QB.out _ (p2_below (by assumption))).mono ?_
                rintro e w6 ⟨rfl, hb5⟩
                have SC := p2_keep (by assumption) hb5
                go_wp2_with fail
                refine hK.out _ _ SC (fun hHeld => ?_)
                clear hK K
                (try simp only [Act.put, List.setIfInBounds_toArray, List.set_cons_zero, List.set_cons_succ])
                refine rg_take (i := 10) (v := ?_) rfl (by kernel_rfl) (by kernel_rfl) (by kernel_rfl) (fun _ _ _ h => h) (by rfl) ?_ (by assumption) ?_
                rotate_left
                · intro w hSw
                  (try dsimp only at hSw)
                  go_simp
                  (try with_reducible rfl)
                (try simp only [Act.put, List.setIfInBounds_toArray, List.set_cons_zero, List.set_cons_succ])
                refine rg_take (i := 11) (v := ?_) rfl (by kernel_rfl) (by kernel_rfl) (by kernel_rfl) (fun _ _ _ h => h) (by rfl) ?_ (by assumption) ?_
                rotate_left
                · intro w hSw
                  (try dsimp only at hSw)
                  go_simp
                  (try with_reducible rfl)
                (try simp only [Act.put, List.setIfInBounds_toArray, List.set_cons_zero, List.set_cons_succ])
                refine rg_take (i := 12) (v := ?_) rfl (by kernel_rfl) (by kernel_rfl) (by kernel_rfl) (fun _ _ _ h => h) (by rfl) ?_ (by assumption) ?_
                rotate_left
                · intro w hSw
                  (try dsimp only at hSw)
                  go_simp
                  (try with_reducible rfl)
                (try simp only [Act.put, List.setIfInBounds_toArray, List.set_cons_zero, List.set_cons_succ])
                refine rg_skip (i := 13) rfl (by kernel_rfl) (by kernel_rfl) (by kernel_rfl) (fun _ _ _ h => h) (by rfl) (by assumption) ?_
                (try simp only [Act.put, List.setIfInBounds_toArray, List.set_cons_zero, List.set_cons_succ])
                refine rg_skip (i := 14) rfl (by kernel_rfl) (by kernel_rfl) (by kernel_rfl) (fun _ _ _ h => h) (by rfl) (by assumption) ?_
                (try simp only [Act.put, List.setIfInBounds_toArray, List.set_cons_zero, List.set_cons_succ])
                refine rg_skip (i := 15) rfl (by kernel_rfl) (by kernel_rfl) (by kernel_rfl) (fun _ _ _ h => h) (by rfl) (by assumption) ?_
                (try simp only [Act.put, List.setIfInBounds_toArray, List.set_cons_zero, List.set_cons_succ])
                refine rg_skip (i := 16) rfl (by kernel_rfl) (by kernel_rfl) (by kernel_rfl) (fun _ _ _ h => h) (by rfl) (by assumption) ?_
                (try simp only [Act.put, List.setIfInBounds_toArray, List.set_cons_zero, List.set_cons_succ])
                refine rg_skip (i := 17) rfl (by kernel_rfl) (by kernel_rfl) (by kernel_rfl) (fun _ _ _ h => h) (by rfl) (by assumption) ?_
                (try simp only [Act.put, List.setIfInBounds_toArray, List.set_cons_zero, List.set_cons_succ])
                refine rg_skip (i := 18) rfl (by kernel_rfl) (by kernel_rfl) (by kernel_rfl) (fun _ _ _ h => h) (by rfl) (by assumption) ?_
                (try simp only [Act.put, List.setIfInBounds_toArray, List.set_cons_zero, List.set_cons_succ])
                refine rg_skip (i := 19) rfl (by kernel_rfl) (by kernel_rfl) (by kernel_rfl) (fun _ _ _ h => h) (by rfl) (by assumption) ?_
                (try simp only [Act.put, List.setIfInBounds_toArray, List.set_cons_zero, List.set_cons_succ])
                refine rg_skip (i := 20) rfl (by kernel_rfl) (by kernel_rfl) (by kernel_rfl) (fun _ _ _ h => h) (by rfl) (by assumption) ?_
                (try simp only [Act.put, List.setIfInBounds_toArray, List.set_cons_zero, List.set_cons_succ])
                refine rg_take (i := 21) (v := ?_) rfl (by kernel_rfl) (by kernel_rfl) (by kernel_rfl) (fun _ _ _ h => h) (by rfl) ?_ (by assumption) ?_
                rotate_left
                · intro w hSw
                  (try dsimp only at hSw)
                  go_simp
                  (try with_reducible rfl)
                (try simp only [Act.put, List.setIfInBounds_toArray, List.set_cons_zero, List.set_cons_succ])
                refine wpAnyH_done (by kernel_rfl) ?_ _
                have HE := Lib.hid (HB.out.trans ((p2_below SC).mono HB.out.size))
                go_wp2
                go_ret
                exact ⟨Kit.ret_bool hf.out.symm, HE.out⟩
            | true =>
              cases b3 with
              | false =>
                have hf := Lib.hid (Mp.ok_no HK.out (by unfold Mp.okAt; rw [← HB3.out, Bool.and_false]) : Mp.ok xs ys ms = false)
                as_aux_lemma =>
                  go_wp2_with fail
                  rw [← HZ.out]
                  have S0 := Lib.hid (show (wz.drew.cell? ⟨wr.heap.size, 0, none⟩ = some (.int .i64 (Tr.l ms k)) ∧ wz.drew.cell? ⟨wr.heap.size, 1, none⟩ = some (.int .i64 (Tr.d ms k))) ∧ BelA wz wz.drew from ⟨⟨HQ.out.1, HQ.out.2⟩, (Drawn.refl _).drew.toBelow⟩)
                  go_region_held3 (fun wq => (wq.cell? ⟨wr.heap.size, 0, none⟩ = some (.int .i64 (Tr.l ms k)) ∧ wq.cell? ⟨wr.heap.size, 1, none⟩ = some (.int .i64 (Tr.d ms k))) ∧ BelA wz wq) (first | (with_reducible exact SC) | (with_reducible exact S0.out)) (first | ((go_at_call 70; with_reducible refine (QA.out _ (p2_below (by assumption))).mono ?_); rintro e w5 ⟨rfl, hb5⟩; have SC := p2_keep (by assumption) hb5) | ((go_at_call 70; with_reducible refine (QB.out _ (p2_below (by assumption))).mono ?_); rintro e w5 ⟨rfl, hb5⟩; have SC := p2_keep (by assumption) hb5) | ((go_at_call 71; with_reducible refine (QC.out _ (p2_below (by assumption))).mono ?_); rintro e w5 ⟨rfl, hb5⟩; have SC := p2_keep (by assumption) hb5))
                  have HE := Lib.hid (HB.out.trans ((p2_below SC).mono HB.out.size))
                  go_wp2
                  go_ret
                  exact ⟨Kit.ret_bool hf.out.symm, HE.out⟩
              | true =>
                have HA := Lib.hid (by unfold Mp.okAt; rw [← HB1.out, ← HB2.out, ← HB3.out]; rfl : Mp.okAt xs ys ms k = true)
                as_aux_lemma =>
                  go_wp2_with fail
                  rw [← HZ.out]
                  have S0 := Lib.hid (show (wz.drew.cell? ⟨wr.heap.size, 0, none⟩ = some (.int .i64 (Tr.l ms k)) ∧ wz.drew.cell? ⟨wr.heap.size, 1, none⟩ = some (.int .i64 (Tr.d ms k))) ∧ BelA wz wz.drew from ⟨⟨HQ.out.1, HQ.out.2⟩, (Drawn.refl _).drew.toBelow⟩)
                  go_region_held3 (fun wq => (wq.cell? ⟨wr.heap.size, 0, none⟩ = some (.int .i64 (Tr.l ms k)) ∧ wq.cell? ⟨wr.heap.size, 1, none⟩ = some (.int .i64 (Tr.d ms k))) ∧ BelA wz wq) (first | (with_reducible exact SC) | (with_reducible exact S0.out)) (first | ((go_at_call 70; with_reducible refine (QA.out _ (p2_below (by assumption))).mono ?_); rintro e w5 ⟨rfl, hb5⟩; have SC := p2_keep (by assumption) hb5) | ((go_at_call 70; with_reducible refine (QB.out _ (p2_below (by assumption))).mono ?_); rintro e w5 ⟨rfl, hb5⟩; have SC := p2_keep (by assumption) hb5) | ((go_at_call 71; with_reducible refine (QC.out _ (p2_below (by assumption))).mono ?_); rintro e w5 ⟨rfl, hb5⟩; have SC := p2_keep (by assumption) hb5))
                  have HE := Lib.hid (HB.out.trans ((p2_below SC).mono HB.out.size))
                  go_wp2
                  go_roundw
                  case rel => exact ⟨k + 1, by omega, by go_num, fun q hq => by
                    rcases Nat.lt_succ_iff_lt_or_eq.1 hq with h' | rfl
                    · exact HG.out q h'
                    · exact HA.out, HE.out⟩
                  case measure => simp [intOf]; omega
        · obtain rfl : k = n'' := by omega
          have hf := Lib.hid ((Mp.ok_yes (fun q hq => HG.out q (by rw [← HL.out]; exact hq))).trans (by rw [← HO1.out, ← HO2.out]; rfl) : Mp.ok xs ys ms = true)
          go_wp2
          go_ret
          exact ⟨Kit.ret_bool hf.out.symm, hB⟩

end Go.Proofs.Ytnfjdlocmdgefaa
