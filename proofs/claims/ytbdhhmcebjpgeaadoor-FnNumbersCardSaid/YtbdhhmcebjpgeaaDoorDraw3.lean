/- More draws of the model: a text, a spoilt text. -/
import Derived.Test.YtbdhhmcebjpgeaaDoorDraw2
import Derived.Test.YtbdhhmcebjpgeaaDoorBase
import Derived.Lib.Strings
namespace Go.Proofs.YtbdhhmcebjpgeaaDoor
open Go.RowKit
set_option linter.unusedVariables false

/-- one letter of a text -/
def Draw.chr (st x : Int) : Int := if st = 1 then x % 2 else if st = 2 then 97 + x % 4 else x
theorem Draw.chr_bd (st x : Int) (h0 : 0 ≤ x) (h1 : x ≤ 255) : 0 ≤ Draw.chr st x ∧ Draw.chr st x < 256 := by
  unfold Draw.chr; split
  · omega
  · split <;> omega
def Draw.chars (cs : List Int) (st : Int) : Nat → (Nat × Int) → List UInt8 → List UInt8 × (Nat × Int)
  | 0, s, acc => (acc, s)
  | n + 1, s, acc => Draw.chars cs st n (Draw.byte cs s).2 (acc ++ [UInt8.ofNat (Draw.chr st (Draw.byte cs s).1).toNat])
theorem Draw.chars_length (cs : List Int) (st : Int) : ∀ (n : Nat) (s : Nat × Int) (acc : List UInt8), (Draw.chars cs st n s acc).1.length = acc.length + n
  | 0, s, acc => rfl
  | n + 1, s, acc => by rw [Draw.chars, Draw.chars_length cs st n]; simp; omega
/-- a text of at most so many bytes -/
def Draw.text (cs : List Int) (most : Int) (s : Nat × Int) : List UInt8 × (Nat × Int) :=
  Draw.chars cs (Draw.below cs 4 s).1 (Draw.below cs (most + 1) (Draw.below cs 4 s).2).1.toNat (Draw.below cs (most + 1) (Draw.below cs 4 s).2).2 []
theorem Draw.text_length (cs : List Int) (most : Int) (s : Nat × Int) (h : 0 ≤ most) : ((Draw.text cs most s).1.length : Int) ≤ most := by
  unfold Draw.text
  rw [Draw.chars_length]
  have := Draw.below_bd cs (most + 1) (Draw.below cs 4 s).2 (by omega)
  simp; omega

theorem Kit.grown_alloc (w : World) (o : Obj) (r : Option Nat) : w.grownBy (w.alloc o) r := ⟨rfl, rfl, rfl, by simp, fun k hk _ => Below.heap_alloc _ _ _ hk⟩
theorem Kit.keptRow {w w' : World} {base e n size B : Nat} {v : Value} {xs : List Value} (h : w.ownsRow base e size v n xs) (hB : B < base) (hg : w.grownBy w' (some B)) : w'.ownsRow base e size v n xs := by
  refine h.kept hg (Or.inr ?_)
  intro he
  have := h.lt B (by rw [he])
  omega
/-- what an append of the call's own leaves, seen from the call's beginning -/
theorem Kit.grown_own {w0 wr w1 : World} {B base e n size : Nat} {o : Obj} {v : Value} {xs : List Value} (hg : w0.grownBy wr (some B)) (hb : w0.heap.size ≤ base) (hown : wr.ownsRow base e size v n xs)
    (h : (wr.alloc o).grownBy w1 v.ownBlock) : w0.grownBy w1 (some B) := by
  have h1 : w0.grownBy (wr.alloc o) (some B) := Kit.grown_trans hg ⟨rfl, rfl, rfl, by simp, fun k hk _ => Below.heap_alloc _ _ _ hk⟩
  exact h1.andThen h (fun j hj => Or.inl (by have := (hown.lt j hj).1; omega))

set_option maxHeartbeats 1000000 in
set_option maxRecDepth 100000 in
theorem l1Text_any (w : World) (B : Nat) (k : Code) (most : Int) (h0 : 0 ≤ most) (hm : most ≤ 100000) (s : Nat × Int) (c : CurAt w B k s) :
    Calls Tryd.prog 22 #[.pointer (some ⟨B, 0, none⟩), .int .i64 most] w fun e w' => e = .returned (.string ⟨(Draw.text k.cs most s).1.toArray⟩) ∧ CurAt w' B k (Draw.text k.cs most s).2 ∧ w.grownBy w' (some B) := by
  obtain ⟨i0, hi, hz0, hz1, hz2⟩ := info_parts info_u8
  obtain ⟨A, hA⟩ : ∃ A, A = Draw.below k.cs 4 s := ⟨_, rfl⟩
  obtain ⟨X, hX⟩ : ∃ X, X = Draw.below k.cs (most + 1) A.2 := ⟨_, rfl⟩
  have dX := Draw.below_bd k.cs (most + 1) A.2 (by omega)
  rw [← hX] at dX
  have hres := Lib.hid (show Draw.text k.cs most s = Draw.chars k.cs A.1 X.1.toNat X.2 [] by rw [hX, hA]; rfl)
  have HA := Lib.hid hA
  have HX := Lib.hid hX
  have hlt := c.lt
  have Hc := Lib.hid c
  clear c hA hX
  go_enter Tryd.func22, Tryd.ntmps22
  go_wp2_with fail
  refine (l1Below_any _ B k 4 s (Hc.out.alloc _)).mono ?_
  rintro e w1 ⟨rfl, c1, g1⟩
  rw [← HA.out] at c1 ⊢
  have C1 := Lib.hid c1
  clear c1
  go_wp2_with fail
  refine (l1Below_any _ B k (most + 1) A.2 C1.out).mono ?_
  rintro e w2 ⟨rfl, c2, g2⟩
  rw [← HX.out] at c2 ⊢
  have C2 := Lib.hid c2
  clear c2
  go_wp2
  go_loopw [5, 7] (fun ov nv wr => ∃ (m : Nat) (t : Nat × Int) (acc : List UInt8), nv = .int .i64 m ∧ (m : Int) ≤ 100000 ∧ acc.length + m ≤ 100000 ∧ wr.ownsRow w.heap.size 5 1 ov acc.length (Kit.bcells acc) ∧ CurAt wr B k t ∧ Draw.text k.cs most s = Draw.chars k.cs A.1 m t acc ∧ w.grownBy wr (some B)) (fun _ n _ => (intOf n).toNat)
  case atStart =>
    obtain ⟨x, hx⟩ := Int.eq_ofNat_of_zero_le dX.1
    refine ⟨x, X.2, [], by rw [hx], by omega, by simp; omega, ?_, C2.out, ?_, ?_⟩
    · exact Kit.keptRow (Kit.keptRow (World.ownsRow_lit w #[] 0 (Nat.le_refl _) (Nat.zero_le _) rfl) hlt g1) hlt g2
    · rw [hres.out, hx]; rfl
    · exact Kit.grown_trans (Kit.grown_alloc _ _ _) (Kit.grown_trans g1 g2)
  case round =>
    obtain ⟨m, t, acc, rfl, hm1, hm2, hown, hcu, htx, hg⟩ := hrel
    have Hcu := Lib.hid hcu
    have Htx := Lib.hid htx
    clear hcu htx
    have hsz := hg.size
    by_cases hpos : 0 < m
    · obtain ⟨m', rfl⟩ : ∃ m', m = m' + 1 := ⟨m - 1, by omega⟩
      obtain ⟨Y, hY⟩ : ∃ Y, Y = Draw.byte k.cs t := ⟨_, rfl⟩
      have dY := Draw.byte_bd k.cs t
      rw [← hY] at dY
      have HY := Lib.hid hY
      have Hn := Lib.hid (show Draw.text k.cs most s = Draw.chars k.cs A.1 m' Y.2 (acc ++ [UInt8.ofNat (Draw.chr A.1 Y.1).toNat]) by rw [Htx.out, hY]; rfl)
      have hcb := Draw.chr_bd A.1 Y.1 dY.1 dY.2
      clear hY
      by_cases hs1 : A.1 = 1
      · have e1 : (A.1 == 1) = true := by simpa using hs1
        have e2 : (A.1 == 2) = false := by simp; omega
        have Hch := Lib.hid (show Draw.chr A.1 Y.1 = Y.1 % 2 by unfold Draw.chr; rw [if_pos hs1])
        clear hs1
        go_wp2_with fail
        refine (l1Byte_any _ B k t Hcu.out).mono ?_
        rintro e w3 ⟨rfl, c3, g3⟩
        rw [← HY.out] at c3 ⊢
        have C3 := Lib.hid c3
        clear c3
        have hown3 := Kit.keptRow hown hlt g3
        have hsz3 := g3.size
        go_wp2_with (at_builtin; refine Kit.append_byte w3 rfl _ _ 22 rfl w.heap.size 5 i0 Tryd.underlying22 hi hz0 hz1 hz2 u5 acc.length acc rfl hown3 rfl (Y.1 % 2) (by omega) (by omega) rfl (by omega) (by omega) ?_; intro v' w4 hown' hgrow)
        have hg4 := Kit.grown_own (Kit.grown_trans hg g3) (Nat.le_refl _) hown3 hgrow
        have hc4 : CurAt w4 B k Y.2 := (C3.out.alloc _).kept hgrow (fun g hgg => by have := (hown3.lt g hgg).1; omega)
        rw [Hch.out] at Hn
        go_roundw
        case rel => exact ⟨m', Y.2, _, by go_num, by omega, by rw [List.length_append]; simp; omega, by rw [List.length_append]; exact hown', hc4, Hn.out, hg4⟩
        case measure => simp [intOf]
      · have e1 : (A.1 == 1) = false := by simpa using hs1
        by_cases hs2 : A.1 = 2
        · have e2 : (A.1 == 2) = true := by simpa using hs2
          have Hch := Lib.hid (show Draw.chr A.1 Y.1 = 97 + Y.1 % 4 by unfold Draw.chr; rw [if_neg hs1, if_pos hs2])
          clear hs1 hs2
          go_wp2_with fail
          refine (l1Byte_any _ B k t Hcu.out).mono ?_
          rintro e w3 ⟨rfl, c3, g3⟩
          rw [← HY.out] at c3 ⊢
          have C3 := Lib.hid c3
          clear c3
          have hown3 := Kit.keptRow hown hlt g3
          have hsz3 := g3.size
          go_wp2_with (at_builtin; refine Kit.append_byte w3 rfl _ _ 22 rfl w.heap.size 5 i0 Tryd.underlying22 hi hz0 hz1 hz2 u5 acc.length acc rfl hown3 rfl (97 + Y.1 % 4) (by omega) (by omega) rfl (by omega) (by omega) ?_; intro v' w4 hown' hgrow)
          have hg4 := Kit.grown_own (Kit.grown_trans hg g3) (Nat.le_refl _) hown3 hgrow
          have hc4 : CurAt w4 B k Y.2 := (C3.out.alloc _).kept hgrow (fun g hgg => by have := (hown3.lt g hgg).1; omega)
          rw [Hch.out] at Hn
          go_roundw
          case rel => exact ⟨m', Y.2, _, by go_num, by omega, by rw [List.length_append]; simp; omega, by rw [List.length_append]; exact hown', hc4, Hn.out, hg4⟩
          case measure => simp [intOf]
        · have e2 : (A.1 == 2) = false := by simpa using hs2
          have Hch := Lib.hid (show Draw.chr A.1 Y.1 = Y.1 by unfold Draw.chr; rw [if_neg hs1, if_neg hs2])
          clear hs1 hs2
          go_wp2_with fail
          refine (l1Byte_any _ B k t Hcu.out).mono ?_
          rintro e w3 ⟨rfl, c3, g3⟩
          rw [← HY.out] at c3 ⊢
          have C3 := Lib.hid c3
          clear c3
          have hown3 := Kit.keptRow hown hlt g3
          have hsz3 := g3.size
          go_wp2_with (at_builtin; refine Kit.append_byte w3 rfl _ _ 22 rfl w.heap.size 5 i0 Tryd.underlying22 hi hz0 hz1 hz2 u5 acc.length acc rfl hown3 rfl (Y.1) (by omega) (by omega) rfl (by omega) (by omega) ?_; intro v' w4 hown' hgrow)
          have hg4 := Kit.grown_own (Kit.grown_trans hg g3) (Nat.le_refl _) hown3 hgrow
          have hc4 : CurAt w4 B k Y.2 := (C3.out.alloc _).kept hgrow (fun g hgg => by have := (hown3.lt g hgg).1; omega)
          rw [Hch.out] at Hn
          go_roundw
          case rel => exact ⟨m', Y.2, _, by go_num, by omega, by rw [List.length_append]; simp; omega, by rw [List.length_append]; exact hown', hc4, Hn.out, hg4⟩
          case measure => simp [intOf]
    · obtain rfl : m = 0 := by omega
      have hcv := Kit.conv_own (P := Tryd.prog) Tryd.underlying22 Tryd.underlying5 Tryd.underlying9 hown rfl
      go_wp2
      go_ret
      rw [Htx.out]
      exact ⟨rfl, Hcu.out, hg⟩
end Go.Proofs.YtbdhhmcebjpgeaaDoor
