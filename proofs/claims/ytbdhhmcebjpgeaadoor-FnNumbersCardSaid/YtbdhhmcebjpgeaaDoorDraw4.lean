/- More draws of the model: a spoilt text. -/
import Derived.Test.YtbdhhmcebjpgeaaDoorDraw3
namespace Go.Proofs.YtbdhhmcebjpgeaaDoor
open Go.RowKit
set_option linter.unusedVariables false

/-- the byte that a letter is turned into -/
def Draw.turn (x y : Int) : UInt8 := UInt8.ofNat (bits .xor .i64 x (1 + y) % 256).toNat
theorem Draw.turn_eq (x y : Int) : ((Draw.turn x y).toNat : Int) = bits .xor .i64 x (1 + y) % 256 := by
  unfold Draw.turn
  rw [UInt8.toNat_ofNat']; omega
/-- a byte turned, dropped or added somewhere -/
def Draw.spoil (cs : List Int) (t : ByteArray) (s : Nat × Int) : ByteArray × (Nat × Int) :=
  if t.size = 0 then (⟨(Draw.text cs 3 s).1.toArray⟩, (Draw.text cs 3 s).2) else
    let K := Draw.below cs t.size s
    let V := Draw.below cs 4 K.2
    let q := K.1.toNat
    if V.1 = 0 then (t.extract 0 q ++ t.extract (q + 1) t.size, V.2)
    else if V.1 = 1 then (t.extract 0 q ++ ⟨#[UInt8.ofNat (Draw.byte cs V.2).1.toNat]⟩ ++ t.extract q t.size, (Draw.byte cs V.2).2)
    else if V.1 = 2 then (t.extract 0 q, V.2)
    else (t.extract 0 q ++ ⟨#[Draw.turn (t.data.toList.getD q 0).toNat (Draw.below cs 255 V.2).1]⟩ ++ t.extract (q + 1) t.size, (Draw.below cs 255 V.2).2)

set_option maxHeartbeats 1000000 in
set_option maxRecDepth 100000 in
theorem l1Spoil_any (w : World) (B : Nat) (k : Code) (t : ByteArray) (ht : (t.size : Int) ≤ 100000) (s : Nat × Int) (c : CurAt w B k s) :
    Calls Tryd.prog 31 #[.pointer (some ⟨B, 0, none⟩), .string t] w fun e w' => e = .returned (.string (Draw.spoil k.cs t s).1) ∧ CurAt w' B k (Draw.spoil k.cs t s).2 ∧ w.grownBy w' (some B) := by
  have Hc := Lib.hid c
  by_cases h0 : t.size = 0
  · have hr := Lib.hid (show Draw.spoil k.cs t s = (⟨(Draw.text k.cs 3 s).1.toArray⟩, (Draw.text k.cs 3 s).2) by unfold Draw.spoil; rw [if_pos h0])
    have e0 : ((t.size : Int) == 0) = true := beq_iff_eq.2 (by omega)
    clear h0 c
    go_enter Tryd.func31, Tryd.ntmps31
    go_wp2_with fail
    refine (l1Text_any _ B k 3 (by decide) (by decide) s Hc.out).mono ?_
    rintro e w1 ⟨rfl, c1, g1⟩
    have C1 := Lib.hid c1
    clear c1
    go_wp2
    go_ret
    rw [hr.out]
    exact ⟨rfl, C1.out, g1⟩
  · obtain ⟨K, hK⟩ : ∃ K, K = Draw.below k.cs t.size s := ⟨_, rfl⟩
    obtain ⟨V, hV⟩ : ∃ V, V = Draw.below k.cs 4 K.2 := ⟨_, rfl⟩
    have dK := Draw.below_bd k.cs t.size s (by omega)
    have dV := Draw.below_bd k.cs 4 K.2 (by omega)
    rw [← hK] at dK
    rw [← hV] at dV
    obtain ⟨q, hq⟩ := Int.eq_ofNat_of_zero_le dK.1
    have hr := Lib.hid (show Draw.spoil k.cs t s = (if V.1 = 0 then (t.extract 0 q ++ t.extract (q + 1) t.size, V.2)
      else if V.1 = 1 then (t.extract 0 q ++ ⟨#[UInt8.ofNat (Draw.byte k.cs V.2).1.toNat]⟩ ++ t.extract q t.size, (Draw.byte k.cs V.2).2)
      else if V.1 = 2 then (t.extract 0 q, V.2)
      else (t.extract 0 q ++ ⟨#[Draw.turn (t.data.toList.getD q 0).toNat (Draw.below k.cs 255 V.2).1]⟩ ++ t.extract (q + 1) t.size, (Draw.below k.cs 255 V.2).2)) by
        unfold Draw.spoil; rw [if_neg h0]; simp only [← hK, ← hV, hq, Int.toNat_natCast])
    have e0 : ((t.size : Int) == 0) = false := beq_eq_false_iff_ne.2 (by omega)
    have HK := Lib.hid hK
    have HV := Lib.hid hV
    have Hq := Lib.hid hq
    obtain ⟨dV0, dV1⟩ := dV
    obtain ⟨dK0, dK1⟩ := dK
    have hqt : q < t.size := by omega
    have hql : q ≤ t.size := by omega
    have hql2 : q + 1 ≤ t.size := by omega
    have hs1 : ¬ 9223372036854775807 < q + 1 := by omega
    have hs2 : ¬ 9223372036854775807 < q + 1 + (t.size - q) := by omega
    have hs3 : ¬ 9223372036854775807 < q + 1 + (t.size - (q + 1)) := by omega
    have hs4 : ¬ 9223372036854775807 < t.size := by omega
    have hqi : (q : Int) < t.size := by omega
    clear hK hV hq c h0
    by_cases v0 : V.1 = 0
    · have f0 : (V.1 == 0) = true := by simpa using v0
      have Hr := Lib.hid (hr.out.trans (if_pos v0))
      clear v0
      go_enter Tryd.func31, Tryd.ntmps31
      go_wp2_with fail
      refine (l1Below_any _ B k t.size s Hc.out).mono ?_
      rintro e w1 ⟨rfl, c1, g1⟩
      rw [← HK.out] at c1 ⊢
      have C1 := Lib.hid c1
      clear c1
      rw [Hq.out]
      go_wp2_with fail
      refine (l1Below_any _ B k 4 K.2 C1.out).mono ?_
      rintro e w2 ⟨rfl, c2, g2⟩
      rw [← HV.out] at c2 ⊢
      have C2 := Lib.hid c2
      clear c2
      go_wp2
      go_quiet (fail)
      go_wp2
      go_ret
      rw [Hr.out]
      exact ⟨rfl, C2.out, Kit.grown_trans g1 (Kit.grown_then_drewN g2 _)⟩
    · have f0 : (V.1 == 0) = false := by simpa using v0
      by_cases v1 : V.1 = 1
      · have f1 : (V.1 == 1) = true := by simpa using v1
        have hr1 := (hr.out.trans (if_neg v0)).trans (if_pos v1)
        obtain ⟨Y, hY⟩ : ∃ Y, Y = Draw.byte k.cs V.2 := ⟨_, rfl⟩
        have dY := Draw.byte_bd k.cs V.2
        rw [← hY] at dY hr1
        obtain ⟨b, hb⟩ : ∃ b : UInt8, b = UInt8.ofNat Y.1.toNat := ⟨_, rfl⟩
        have hbn : (b.toNat : Int) = Y.1 := by rw [hb, UInt8.toNat_ofNat']; omega
        rw [← hb] at hr1
        have Hr := Lib.hid hr1
        have HY := Lib.hid hY
        have Hbn := Lib.hid hbn
        have hw8 : IntKind.u8.wrap Y.1 = Y.1 := by rw [IntKind.wrap_u8']; omega
        clear v0 v1 hr1 hY hb hbn
        go_enter Tryd.func31, Tryd.ntmps31
        go_wp2_with fail
        refine (l1Below_any _ B k t.size s Hc.out).mono ?_
        rintro e w1 ⟨rfl, c1, g1⟩
        rw [← HK.out] at c1 ⊢
        have C1 := Lib.hid c1
        clear c1
        rw [Hq.out]
        go_wp2_with fail
        refine (l1Below_any _ B k 4 K.2 C1.out).mono ?_
        rintro e w2 ⟨rfl, c2, g2⟩
        rw [← HV.out] at c2 ⊢
        have C2 := Lib.hid c2
        clear c2
        go_wp2
        go_region_law ((go_simp; go_at_call 34; refine (l1Byte_any _ B k V.2 (by exact C2.out)).mono ?_; rintro e w3 ⟨rfl, c3, g3⟩; rw [← HY.out] at c3 ⊢; have C3 := Lib.hid c3; clear c3; have hcv := Kit.conv1b (P := Tryd.prog) w3 22 9 5 Y.1 b Hbn.out Tryd.underlying22 Tryd.underlying5 Tryd.underlying9))
        go_wp2
        go_ret
        rw [Hr.out]
        exact ⟨rfl, C3.out.alloc _, Kit.grown_trans g1 (Kit.grown_trans (Kit.grown_then_drewN g2 1) (Kit.grown_trans g3 (Kit.grown_alloc _ _ _)))⟩
      · have f1 : (V.1 == 1) = false := by simpa using v1
        by_cases v2 : V.1 = 2
        · have f2 : (V.1 == 2) = true := by simpa using v2
          have hr1 := ((hr.out.trans (if_neg v0)).trans (if_neg v1)).trans (if_pos v2)
          have Hr := Lib.hid hr1
          clear v0 v1 v2 hr1
          go_enter Tryd.func31, Tryd.ntmps31
          go_wp2_with fail
          refine (l1Below_any _ B k t.size s Hc.out).mono ?_
          rintro e w1 ⟨rfl, c1, g1⟩
          rw [← HK.out] at c1 ⊢
          have C1 := Lib.hid c1
          clear c1
          rw [Hq.out]
          go_wp2_with fail
          refine (l1Below_any _ B k 4 K.2 C1.out).mono ?_
          rintro e w2 ⟨rfl, c2, g2⟩
          rw [← HV.out] at c2 ⊢
          have C2 := Lib.hid c2
          clear c2
          go_wp2
          go_ret
          rw [Hr.out]
          exact ⟨rfl, C2.out, Kit.grown_trans g1 g2⟩
        · have f2 : (V.1 == 2) = false := by simpa using v2
          have hr1 := ((hr.out.trans (if_neg v0)).trans (if_neg v1)).trans (if_neg v2)
          obtain ⟨Y, hY⟩ : ∃ Y, Y = Draw.below k.cs 255 V.2 := ⟨_, rfl⟩
          have dY := Draw.below_bd k.cs 255 V.2 (by omega)
          rw [← hY] at dY hr1
          have hget : t.data.toList.getD q 0 = t[q] := by
            rw [List.getD_eq_getElem?_getD, List.getElem?_eq_getElem (by simpa using hqt)]; rfl
          rw [hget] at hr1
          have hbt : t[q].toNat < 256 := t[q].toNat_lt
          obtain ⟨b, hb⟩ : ∃ b : UInt8, b = Draw.turn t[q].toNat Y.1 := ⟨_, rfl⟩
          have hbn : (b.toNat : Int) = IntKind.u8.wrap (bits .xor .i64 t[q].toNat (1 + Y.1)) := by rw [hb, Draw.turn_eq, IntKind.wrap_u8']
          rw [← hb] at hr1
          have Hr := Lib.hid hr1
          have HY := Lib.hid hY
          have Hbn := Lib.hid hbn
          have hqj : 0 ≤ (q : Int) + 1 ∧ (q : Int) + 1 ≤ t.size := by omega
          have e1 := Kit.w64 (x := (t[q].toNat : Int)) (by omega) (by omega)
          have e2 := Kit.w64 (x := 1 + Y.1) (by omega) (by omega)
          have e3 := Kit.w64 (x := (q : Int) + 1) (by omega) (by omega)
          clear v0 v1 v2 hr1 hY hb hbn hget
          go_enter Tryd.func31, Tryd.ntmps31
          go_wp2_with fail
          refine (l1Below_any _ B k t.size s Hc.out).mono ?_
          rintro e w1 ⟨rfl, c1, g1⟩
          rw [← HK.out] at c1 ⊢
          have C1 := Lib.hid c1
          clear c1
          rw [Hq.out]
          go_wp2_with fail
          refine (l1Below_any _ B k 4 K.2 C1.out).mono ?_
          rintro e w2 ⟨rfl, c2, g2⟩
          rw [← HV.out] at c2 ⊢
          have C2 := Lib.hid c2
          clear c2
          go_wp2
          go_region_law ((go_simp; go_at_call 32; refine (l1Below_any _ B k 255 V.2 (by exact C2.out)).mono ?_; rintro e w3 ⟨rfl, c3, g3⟩; rw [← HY.out] at c3 ⊢; have C3 := Lib.hid c3; clear c3; have hcv := Kit.conv1b (P := Tryd.prog) w3 22 9 5 _ b Hbn.out Tryd.underlying22 Tryd.underlying5 Tryd.underlying9))
          all_goals
            clear e1 e2 e3
            go_wp2
            go_ret
            rw [Hr.out]
            exact ⟨rfl, C3.out.alloc _, Kit.grown_trans g1 (Kit.grown_trans (Kit.grown_then_drewN g2 1) (Kit.grown_trans g3 (Kit.grown_alloc _ _ _)))⟩

theorem Draw.spoil_size (cs : List Int) (t : ByteArray) (s : Nat × Int) (h : (t.size : Int) ≤ 1000) : (Draw.spoil cs t s).1.size ≤ 1005 := by
  unfold Draw.spoil
  split
  · have := Draw.text_length cs 3 s (by omega)
    show (Draw.text cs 3 s).1.toArray.size ≤ 1005
    simp; omega
  · simp only
    have hq := Draw.below_bd cs t.size s (by omega)
    generalize (Draw.below cs t.size s).1.toNat = q
    split
    · simp [ByteArray.size_append]; omega
    · split
      · simp [ByteArray.size_append, go_sem]; omega
      · split
        · simp; omega
        · simp [ByteArray.size_append, go_sem]; omega
end Go.Proofs.YtbdhhmcebjpgeaaDoor
