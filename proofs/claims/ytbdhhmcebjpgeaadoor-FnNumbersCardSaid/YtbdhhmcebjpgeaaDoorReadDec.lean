/- The contracts of ReadDec, the model's and the program's. -/
import Derived.Test.YtbdhhmcebjpgeaaDoorImplDec
import Derived.Test.YtbdhhmcebjpgeaaDoorDecNum
import Derived.BigQuiet
import Derived.Shelf.Strconv.AtoiAll
namespace Go.Proofs.YtbdhhmcebjpgeaaDoor
open Go.RowKit
set_option linter.unusedVariables false

def Num.rdN (s : ByteArray) : Int := (Num.rdec s.data.toList).getD 0
def Num.rdB (s : ByteArray) : Bool := (Num.rdec s.data.toList).isSome
theorem Num.rd_none {s : ByteArray} (h : Num.rdec s.data.toList = none) : Num.rdN s = 0 ∧ Num.rdB s = false := by unfold Num.rdN Num.rdB; rw [h]; exact ⟨rfl, rfl⟩
theorem Num.rd_some {s : ByteArray} {n : Int} (h : Num.rdec s.data.toList = some n) : Num.rdN s = n ∧ Num.rdB s = true := by unfold Num.rdN Num.rdB; rw [h]; exact ⟨rfl, rfl⟩
theorem Num.rdec_long {s : ByteArray} (h : 9 < (Lib.trimPrefix s.data.toList [45]).length) : Num.rdec s.data.toList = none := by
  cases hr : Num.rdec s.data.toList with
  | none => rfl
  | some n => have := (Num.rdec_inv hr).1; omega
theorem Num.rdec_fail {s : ByteArray} (h : ∀ v, Lib.atoiAll s.data.toList ≠ .ok v) : Num.rdec s.data.toList = none := by
  cases hr : Num.rdec s.data.toList with
  | none => rfl
  | some n => exact absurd (Num.rdec_inv hr).2.1 (h n)
theorem Num.rdec_other {s : ByteArray} {v : Int} (h : Lib.atoiAll s.data.toList = .ok v) (h2 : Lib.itoa v ≠ s.data.toList) : Num.rdec s.data.toList = none := by
  cases hr : Num.rdec s.data.toList with
  | none => rfl
  | some n =>
    obtain ⟨_, h3, h4⟩ := Num.rdec_inv hr
    rw [h3] at h
    injection h with h
    subst h
    exact absurd h4 h2

/-- what the laid sentinels give -/
def HasErrs (w : World) : Prop := (∃ te pe, w.cell? ⟨0, 0, none⟩ = some (.iface te pe)) ∧ (∃ te pe, w.cell? ⟨1, 0, none⟩ = some (.iface te pe))

theorem Num.atoi_bd {l : List UInt8} {v : Int} (h : Lib.atoiAll l = .ok v) : -9223372036854775808 ≤ v ∧ v ≤ 9223372036854775807 := by
  unfold Lib.atoiAll at h
  split at h
  · cases h
  · simp only at h
    split at h
    · cases h
    · cases h
    · split at h
      · cases h
      · split at h
        · cases h
        · injection h with h
          split at h <;> omega

def Num.strip (s : ByteArray) : List UInt8 := Lib.trimPrefix s.data.toList [45]
theorem trim_any (s : ByteArray) (w : World) :
    Calls Tryd.prog 25 #[.string s, .string ⟨#[45]⟩] w fun e w' => e = .returned (.string ⟨(Num.strip s).toArray⟩) ∧ w = w' := by
  refine (Tryd.strings_TrimPrefix s ⟨#[45]⟩ w).mono ?_
  rintro e w' ⟨rfl, rfl⟩
  exact ⟨rfl, rfl⟩

/-- how Atoi ends -/
theorem atoi_ok (s : ByteArray) (hs : s.size ≤ 1048576) (v : Int) (h : Lib.atoiAll s.data.toList = .ok v) (w : World) :
    Calls Tryd.prog 26 #[.string s] w fun e w' => e = .returned (.tuple #[.int .i64 v, .nilIface]) ∧ Below w.heap.size w w' := by
  refine (Tryd.strconv_Atoi_ok s (by omega) v h w).mono ?_
  rintro e w' ⟨rfl, hw⟩
  refine ⟨rfl, ?_⟩
  rcases hw with rfl | ⟨t, rfl⟩
  · exact Below.refl _ _
  · exact Lib.bytesWorld_below _ _ _
theorem atoi_fail (s : ByteArray) (hs : s.size ≤ 1048576) (h : ∀ v, Lib.atoiAll s.data.toList ≠ .ok v) (w : World) (he : HasErrs w) :
    Calls Tryd.prog 26 #[.string s] w fun e w' => ∃ (k : Int) (t : TypeId) (N : Nat), e = .returned (.tuple #[.int .i64 k, .iface t (.pointer (some ⟨N, 0, none⟩))]) ∧ Below w.heap.size w w' := by
  obtain ⟨⟨t1, p1, h1⟩, t2, p2, h2⟩ := he
  cases hr : Lib.atoiAll s.data.toList with
  | ok v => exact absurd hr (h v)
  | «syntax» =>
    refine (Tryd.strconv_Atoi_syntax s (by omega) hr _ w h1 (Or.inr ⟨_, _, rfl⟩)).mono ?_
    rintro e w' ⟨N, rfl, _, _, hb⟩
    exact ⟨_, _, N, rfl, hb⟩
  | range =>
    refine (Tryd.strconv_Atoi_range s (by omega) hr _ w h2 (Or.inr ⟨_, _, rfl⟩)).mono ?_
    rintro e w' ⟨N, rfl, _, _, hb⟩
    exact ⟨_, _, N, rfl, hb⟩

set_option maxHeartbeats 400000 in
theorem implReadDec_long (s : ByteArray) (hs : s.size ≤ 1048576) (h : 9 < (Num.strip s).length) (w : World) :
    Calls Tryd.prog 13 #[.string s] w fun e w' => e = .returned (.tuple #[.int .i64 0, .bool false]) ∧ w = w' := by
  go_enter Tryd.func13, Tryd.ntmps13
  go_wp2_with fail
  refine (trim_any s _).mono ?_
  rintro e w1 ⟨rfl, rfl⟩
  go_wp2
  go_ret2
  exact ⟨rfl, rfl⟩

set_option maxHeartbeats 400000 in
theorem implReadDec_fail (s : ByteArray) (hs : s.size ≤ 1048576) (h : (Num.strip s).length ≤ 9) (hf : ∀ v, Lib.atoiAll s.data.toList ≠ .ok v) (w : World) (he : HasErrs w) :
    Calls Tryd.prog 13 #[.string s] w fun e w' => e = .returned (.tuple #[.int .i64 0, .bool false]) ∧ Below w.heap.size w w' := by
  have Hf := Lib.hid hf
  clear hf
  go_enter Tryd.func13, Tryd.ntmps13
  go_wp2_with fail
  refine (trim_any s _).mono ?_
  rintro e w1 ⟨rfl, rfl⟩
  go_wp2_with fail
  refine (atoi_fail s hs Hf.out _ he).mono ?_
  rintro e w1 ⟨k, t, N, rfl, hb⟩
  go_wp2
  go_ret2
  exact ⟨rfl, hb⟩

set_option maxHeartbeats 400000 in
theorem implReadDec_ok (s : ByteArray) (hs : s.size ≤ 1048576) (h : (Num.strip s).length ≤ 9) (v : Int) (hv : Lib.atoiAll s.data.toList = .ok v) (w : World) (ht : HasPow w) :
    Calls Tryd.prog 13 #[.string s] w fun e w' => e = .returned (.tuple #[.int .i64 (Num.rdN s), .bool (Num.rdB s)]) ∧ Below w.heap.size w w' := by
  have Hv := Lib.hid hv
  obtain ⟨b0, b1⟩ := Num.atoi_bd hv
  clear hv
  go_enter Tryd.func13, Tryd.ntmps13
  go_wp2_with fail
  refine (trim_any s _).mono ?_
  rintro e w1 ⟨rfl, rfl⟩
  go_wp2_with fail
  refine (atoi_ok s hs v Hv.out _).mono ?_
  rintro e w1 ⟨rfl, hb⟩
  have ht1 := ht.below hb
  go_wp2_with fail
  refine (implDec_any v b0 b1 _ ht1).mono ?_
  rintro e w2 ⟨rfl, hb2⟩
  go_wp2
  · have hn : (!Lib.itoa v == s.toList) = true := by assumption
    rw [ByteArray.toList_eq] at hn
    have hne : Lib.itoa v ≠ s.data.toList := by simpa using hn
    obtain ⟨e1, e2⟩ := Num.rd_none (Num.rdec_other Hv.out hne)
    go_ret2
    exact ⟨by rw [e1, e2]; rfl, hb.trans (hb2.mono hb.size)⟩
  · have hn : (!Lib.itoa v == s.toList) = false := by assumption
    rw [ByteArray.toList_eq] at hn
    have hne : Lib.itoa v = s.data.toList := by simpa using hn
    obtain ⟨e1, e2⟩ := Num.rd_some (Num.rdec_of hne h)
    go_ret2
    exact ⟨by rw [e1, e2]; rfl, hb.trans (hb2.mono hb.size)⟩

theorem implReadDec_any (s : ByteArray) (hs : s.size ≤ 1048576) (w : World) (ht : HasPow w) (he : HasErrs w) :
    Calls Tryd.prog 13 #[.string s] w fun e w' => e = .returned (.tuple #[.int .i64 (Num.rdN s), .bool (Num.rdB s)]) ∧ Below w.heap.size w w' := by
  by_cases h : 9 < (Num.strip s).length
  · refine (implReadDec_long s hs h w).mono ?_
    rintro e w' ⟨rfl, rfl⟩
    obtain ⟨e1, e2⟩ := Num.rd_none (Num.rdec_long h)
    exact ⟨by rw [e1, e2], Below.refl _ _⟩
  · by_cases hv : ∃ v, Lib.atoiAll s.data.toList = .ok v
    · obtain ⟨v, hv⟩ := hv
      exact implReadDec_ok s hs (by omega) v hv w ht
    · have hf : ∀ v, Lib.atoiAll s.data.toList ≠ .ok v := fun v h => hv ⟨v, h⟩
      refine (implReadDec_fail s hs (by omega) hf w he).mono ?_
      rintro e w' ⟨rfl, hb⟩
      obtain ⟨e1, e2⟩ := Num.rd_none (Num.rdec_fail hf)
      exact ⟨by rw [e1, e2], hb⟩

/-- the model's: the number when the bytes are read, and what the sign makes of it -/
theorem Num.specN_eq (s : ByteArray) : Num.specN s.data.toList = (if s.data.toList.head? = some 45 then -(Num.numF (s.data.toList.take 11) : Int) else Num.numF (s.data.toList.take 11)) := rfl
theorem Num.specN_bd (l : List UInt8) : -99999999999 ≤ Num.specN l ∧ Num.specN l ≤ 99999999999 := by
  have hs := Num.numF_small (l.take 11) (List.length_take_le _ _)
  unfold Num.specN; split <;> omega
theorem Num.rd_yes {s : ByteArray} (h1 : Num.cntF (s.data.toList.take 11) ≤ 9) (h2 : s.size ≤ 10) (h3 : Lib.itoa (Num.specN s.data.toList) = s.data.toList) : Num.rdN s = Num.specN s.data.toList ∧ Num.rdB s = true :=
  Num.rd_some (by unfold Num.rdec; rw [if_pos ⟨h1, by simpa using h2, h3⟩])
theorem Num.rd_no {s : ByteArray} (h : ¬ (Num.cntF (s.data.toList.take 11) ≤ 9 ∧ s.size ≤ 10 ∧ Lib.itoa (Num.specN s.data.toList) = s.data.toList)) : Num.rdN s = 0 ∧ Num.rdB s = false :=
  Num.rd_none (by unfold Num.rdec; rw [if_neg (by intro hc; exact h ⟨hc.1, by simpa using hc.2.1, hc.2.2⟩)])
theorem Num.take_min (s : ByteArray) (k : Nat) (hk : k ≤ 11) (h : k = 11 ∨ s.size ≤ k) : s.data.toList.take k = s.data.toList.take 11 := by
  rcases h with rfl | h
  · rfl
  · rw [Kit.take_full s k h, Kit.take_full s 11 (by omega)]

set_option maxHeartbeats 1000000 in
set_option maxRecDepth 100000 in
theorem specReadDec_any (s : ByteArray) (hs : s.size ≤ 1048576) (w : World) :
    Calls Tryd.prog 19 #[.string s] w fun e w' => e = .returned (.tuple #[.int .i64 (Num.rdN s), .bool (Num.rdB s)]) ∧ Below w.heap.size w w' := by
  go_enter Tryd.func19, Tryd.ntmps19
  go_wp2
  go_loop [4, 5, 6] (fun nv cv iv => ∃ k : Nat, (k : Int) ≤ 11 ∧ k ≤ s.size ∧ iv = .int .i64 k ∧ nv = .int .i64 (Num.numF (s.data.toList.take k)) ∧ cv = .int .i64 (Num.cntF (s.data.toList.take k))) (fun _ _ i => 11 - (intOf i).toNat)
  case atStart => exact ⟨0, by omega, by omega, rfl, rfl, rfl⟩
  case round =>
    obtain ⟨k, hk11, hks, rfl, rfl, rfl⟩ := hrel
    have hsm := Num.numF_small (s.data.toList.take k) (Nat.le_trans (List.length_take_le _ _) (by omega))
    have hcm := Nat.le_trans (Num.cntF_le (s.data.toList.take k)) (Nat.le_trans (List.length_take_le _ _) (show k ≤ 11 by omega))
    by_cases hlt : k < s.size ∧ (k : Int) < 11
    · obtain ⟨h1, h2⟩ := hlt
      have hbt : s[k].toNat < 256 := s[k].toNat_lt
      have hts := Lib.hid (Kit.take_snoc s k h1)
      by_cases hd : 48 ≤ s[k].toNat ∧ s[k].toNat ≤ 57
      · have hb : Num.isDig s[k] = true := by unfold Num.isDig; simpa using hd
        have hn := Lib.hid (Num.numF_dig (s.data.toList.take k) hb)
        have hc := Lib.hid (Num.cntF_dig (s.data.toList.take k) hb)
        clear hb
        obtain ⟨hd1, hd2⟩ := hd
        go_wp2
        go_round
        case rel => exact ⟨k + 1, by omega, by omega, by go_num, by rw [hts.out, hn.out]; go_num, by rw [hts.out, hc.out]; go_num⟩
        case measure => simp [intOf]; omega
      · have hb : Num.isDig s[k] = false := by unfold Num.isDig; simpa using hd
        have hn := Lib.hid (Num.numF_other (s.data.toList.take k) hb)
        have hc := Lib.hid (Num.cntF_other (s.data.toList.take k) hb)
        clear hb
        by_cases hlow : 48 ≤ s[k].toNat
        · have hhi : 57 < s[k].toNat := by omega
          clear hd
          go_wp2
          go_round
          case rel => exact ⟨k + 1, by omega, by omega, by go_num, by rw [hts.out, hn.out], by rw [hts.out, hc.out]⟩
          case measure => simp [intOf]; omega
        · clear hd
          go_wp2
          go_round
          case rel => exact ⟨k + 1, by omega, by omega, by go_num, by rw [hts.out, hn.out], by rw [hts.out, hc.out]⟩
          case measure => simp [intOf]; omega
    · have hmin := Num.take_min s k (by omega) (by omega)
      rw [hmin]
      rw [hmin] at hsm hcm
      obtain ⟨N, hN⟩ : ∃ N : Nat, N = Num.numF (s.data.toList.take 11) := ⟨_, rfl⟩
      obtain ⟨C, hC⟩ : ∃ C : Nat, C = Num.cntF (s.data.toList.take 11) := ⟨_, rfl⟩
      have hyes := Lib.hid (@Num.rd_yes s)
      have hno := Lib.hid (@Num.rd_no s)
      have hsp := Num.specN_eq s
      have hbd := Num.specN_bd s.data.toList
      obtain ⟨n, hn⟩ : ∃ n : Int, n = Num.specN s.data.toList := ⟨_, rfl⟩
      rw [← hn] at hsp hbd hyes hno
      rw [← hN] at hsp hsm ⊢
      rw [← hC] at hcm hyes hno ⊢
      clear hN hC hn
      clear hmin
      have hor : s.size ≤ k ∨ (k < s.size ∧ (11 : Int) ≤ k) := by omega
      clear hlt
      rcases hor with hge | ⟨hl1, hl2⟩
      all_goals
        by_cases hneg : s.data.toList.head? = some 45
        · rw [if_pos hneg] at hsp
          have hpos : 0 < s.size := by
            rcases Nat.eq_zero_or_pos s.size with h0 | h0
            · have : s.data.toList = [] := List.eq_nil_of_length_eq_zero (by simpa using h0)
              rw [this] at hneg; cases hneg
            · exact h0
          have h45 : s[0].toNat = 45 := by
            have : s.data.toList.head? = some s[0] := by
              rw [List.head?_eq_getElem?, List.getElem?_eq_getElem (by simpa using hpos)]; rfl
            rw [this] at hneg
            injection hneg with hneg
            rw [hneg]; rfl
          have hb45 : ((s[0].toNat : Int) == 45) = true := by simp; omega
          have Hsp := Lib.hid hsp
          clear hneg h45 hsp
          by_cases hc9 : (9 : Int) < C
          · obtain ⟨e1, e2⟩ := hno.out (by omega)
            have E1 := Lib.hid e1
            have E2 := Lib.hid e2
            clear e1 e2
            go_wp2
            all_goals go_ret2
            all_goals exact ⟨by rw [E1.out, E2.out]; rfl, Below.refl _ _⟩
          · by_cases hs10 : (10 : Int) < s.size
            · obtain ⟨e1, e2⟩ := hno.out (by omega)
              have E1 := Lib.hid e1
              have E2 := Lib.hid e2
              clear e1 e2
              go_wp2
              all_goals go_ret2
              all_goals exact ⟨by rw [E1.out, E2.out]; rfl, Below.refl _ _⟩
            · first
                | (exfalso; omega)
                | (go_wp2_with fail
                   refine (specDec_any (-(N : Int)) (by omega) (by omega) _).mono ?_
                   rintro e w1 ⟨rfl, hb⟩
                   go_wp2
                   · have hn : (!Lib.itoa (-(N : Int)) == s.toList) = true := by assumption
                     rw [ByteArray.toList_eq] at hn
                     have hne : Lib.itoa (-(N : Int)) ≠ s.data.toList := by simpa using hn
                     obtain ⟨e1, e2⟩ := hno.out (by rw [Hsp.out]; intro hc; exact hne hc.2.2)
                     go_ret2
                     exact ⟨by rw [e1, e2]; rfl, hb⟩
                   · have hn : (!Lib.itoa (-(N : Int)) == s.toList) = false := by assumption
                     rw [ByteArray.toList_eq] at hn
                     have hne : Lib.itoa (-(N : Int)) = s.data.toList := by simpa using hn
                     obtain ⟨e1, e2⟩ := hyes.out (by omega) (by omega) (by rw [Hsp.out]; exact hne)
                     go_ret2
                     exact ⟨by rw [e1, e2, Hsp.out]; rfl, hb⟩)
        · rw [if_neg hneg] at hsp
          have Hsp := Lib.hid hsp
          by_cases hpos : 0 < s.size
          · have h45 : s[0].toNat ≠ 45 := by
              intro h
              apply hneg
              rw [List.head?_eq_getElem?, List.getElem?_eq_getElem (by simpa using hpos)]
              exact congrArg some (UInt8.toNat_inj.1 h)
            have hb45 : ((s[0].toNat : Int) == 45) = false := by simp; omega
            clear hneg h45 hsp
            by_cases hc9 : (9 : Int) < C
            · obtain ⟨e1, e2⟩ := hno.out (by omega)
              have E1 := Lib.hid e1
              have E2 := Lib.hid e2
              clear e1 e2
              go_wp2
              all_goals go_ret2
              all_goals exact ⟨by rw [E1.out, E2.out]; rfl, Below.refl _ _⟩
            · by_cases hs10 : (10 : Int) < s.size
              · obtain ⟨e1, e2⟩ := hno.out (by omega)
                have E1 := Lib.hid e1
                have E2 := Lib.hid e2
                clear e1 e2
                go_wp2
                all_goals go_ret2
                all_goals exact ⟨by rw [E1.out, E2.out]; rfl, Below.refl _ _⟩
              · first
                  | (exfalso; omega)
                  | (go_wp2_with fail
                     refine (specDec_any ((N : Int)) (by omega) (by omega) _).mono ?_
                     rintro e w1 ⟨rfl, hb⟩
                     go_wp2
                     · have hn : (!Lib.itoa ((N : Int)) == s.toList) = true := by assumption
                       rw [ByteArray.toList_eq] at hn
                       have hne : Lib.itoa ((N : Int)) ≠ s.data.toList := by simpa using hn
                       obtain ⟨e1, e2⟩ := hno.out (by rw [Hsp.out]; intro hc; exact hne hc.2.2)
                       go_ret2
                       exact ⟨by rw [e1, e2]; rfl, hb⟩
                     · have hn : (!Lib.itoa ((N : Int)) == s.toList) = false := by assumption
                       rw [ByteArray.toList_eq] at hn
                       have hne : Lib.itoa ((N : Int)) = s.data.toList := by simpa using hn
                       obtain ⟨e1, e2⟩ := hyes.out (by omega) (by omega) (by rw [Hsp.out]; exact hne)
                       go_ret2
                       exact ⟨by rw [e1, e2, Hsp.out]; rfl, hb⟩)
          · clear hneg hsp
            by_cases hc9 : (9 : Int) < C
            · obtain ⟨e1, e2⟩ := hno.out (by omega)
              have E1 := Lib.hid e1
              have E2 := Lib.hid e2
              clear e1 e2
              go_wp2
              all_goals go_ret2
              all_goals exact ⟨by rw [E1.out, E2.out]; rfl, Below.refl _ _⟩
            · by_cases hs10 : (10 : Int) < s.size
              · obtain ⟨e1, e2⟩ := hno.out (by omega)
                have E1 := Lib.hid e1
                have E2 := Lib.hid e2
                clear e1 e2
                go_wp2
                all_goals go_ret2
                all_goals exact ⟨by rw [E1.out, E2.out]; rfl, Below.refl _ _⟩
              · first
                  | (exfalso; omega)
                  | (go_wp2_with fail
                     refine (specDec_any ((N : Int)) (by omega) (by omega) _).mono ?_
                     rintro e w1 ⟨rfl, hb⟩
                     go_wp2
                     · have hn : (!Lib.itoa ((N : Int)) == s.toList) = true := by assumption
                       rw [ByteArray.toList_eq] at hn
                       have hne : Lib.itoa ((N : Int)) ≠ s.data.toList := by simpa using hn
                       obtain ⟨e1, e2⟩ := hno.out (by rw [Hsp.out]; intro hc; exact hne hc.2.2)
                       go_ret2
                       exact ⟨by rw [e1, e2]; rfl, hb⟩
                     · have hn : (!Lib.itoa ((N : Int)) == s.toList) = false := by assumption
                       rw [ByteArray.toList_eq] at hn
                       have hne : Lib.itoa ((N : Int)) = s.data.toList := by simpa using hn
                       obtain ⟨e1, e2⟩ := hyes.out (by omega) (by omega) (by rw [Hsp.out]; exact hne)
                       go_ret2
                       exact ⟨by rw [e1, e2, Hsp.out]; rfl, hb⟩)
theorem HasErrs.below {w w' : World} (h : HasErrs w) (hb : Below w.heap.size w w') : HasErrs w' := by
  obtain ⟨⟨t1, p1, h1⟩, t2, p2, h2⟩ := h
  exact ⟨⟨t1, p1, (hb.cell (Lib.lt_of_cell h1)).trans h1⟩, t2, p2, (hb.cell (Lib.lt_of_cell h2)).trans h2⟩

/-- what the laid sentinels give -/
theorem gES : Tryd.prog.globalNamed "strconv.ErrSyntax" = some 0 := by kernel_rfl
theorem gESType : (Tryd.prog.globals[0]?).map (·.type) = some 46 := by kernel_rfl
theorem gER : Tryd.prog.globalNamed "strconv.ErrRange" = some 1 := by kernel_rfl
theorem gERType : (Tryd.prog.globals[1]?).map (·.type) = some 46 := by kernel_rfl
theorem cellsES : Tryd.prog.cellsOf 82 = 1 := by kernel_rfl
theorem cellsS : Tryd.prog.cellsOf 9 = 1 := by kernel_rfl
theorem starES : "*" ++ "errors.errorString" = "*errors.errorString" := by decide
theorem rowES (u : TypeId) (h : Tryd.prog.typeName? 3 u = some "*errors.errorString") : u = 80 :=
  typeName_ptr_named (nm := "errors.errorString") (by rw [starES]; kernel_rfl) (by kernel_rfl) (by decide) u (by rw [starES]; exact h)
theorem hasErrs {w : World} {rest : List (String × DataW Unit)} (h : laidMet Tryd.prog (("strconv.ErrRange", Rows.laid_strconv_ErrRange) :: ("strconv.ErrSyntax", Rows.laid_strconv_ErrSyntax) :: rest) w) : HasErrs w := by
  obtain ⟨a0, s0, hv0, -, -, -⟩ := laid_sentinel h gER gERType Tryd.underlying46 rowES Tryd.underlying80 Tryd.underlying82 rfl rfl Tryd.underlying9 cellsES cellsS
  obtain ⟨a1, s1, hv1, -, -, -⟩ := laid_sentinel h.tail gES gESType Tryd.underlying46 rowES Tryd.underlying80 Tryd.underlying82 rfl rfl Tryd.underlying9 cellsES cellsS
  exact ⟨⟨_, _, by have h0 := World.var?_cell gES hv1 0; simpa using h0⟩, _, _, by have h0 := World.var?_cell gER hv0 0; simpa using h0⟩

set_option maxHeartbeats 400000 in
theorem exactReadDec_walk (s : ByteArray) (hs : s.size ≤ maxLen) (w : World) (hL : laidMetH Tryd.prog Rows.fnExactReadDecRow.laid w) :
    Calls Tryd.prog 5 #[.string s] w fun e w' => e = .returned (.bool true) ∧ Below w.heap.size w w' := by
  have hL' : laidMet Tryd.prog Rows.fnExactReadDecRow.laid w := hL
  have ht : HasPow w := hasPow hL'.tail.tail
  have he : HasErrs w := hasErrs hL'.tail.tail.tail
  clear hL hL'
  unfold maxLen at hs
  by_cases hbig : (1048576 : Int) < s.size
  · go_enter Tryd.func5, Tryd.ntmps5
    go_wp2
    go_ret
    exact ⟨rfl, Below.refl _ _⟩
  · have h2 : s.size ≤ 1048576 := by omega
    go_enter Tryd.func5, Tryd.ntmps5
    go_wp2_with fail
    refine (specReadDec_any s h2 _).mono ?_
    rintro e w1 ⟨rfl, hb1⟩
    have ht1 := ht.below hb1
    have he1 := he.below hb1
    go_wp2_with fail
    refine (implReadDec_any s h2 _ ht1 he1).mono ?_
    rintro e w2 ⟨rfl, hb2⟩
    go_wp2
    all_goals go_ret
    all_goals exact ⟨rfl, hb1.trans (hb2.mono hb1.size)⟩

end Go.Proofs.YtbdhhmcebjpgeaaDoor
