/- The contracts of Unhex, the model's and the program's. -/
import Derived.Test.YtbdhhmcebjpgeaaHex
import Derived.Test.YtbdhhmcebjpgeaaShelf
namespace Go.Proofs.Ytbdhhmcebjpgeaa
open Go.RowKit
set_option linter.unusedVariables false

/-- the value of a digit, or -1 -/
def Num.fromHex (b : UInt8) : Int := if 48 ≤ b.toNat ∧ b.toNat ≤ 57 then b.toNat - 48 else if 97 ≤ b.toNat ∧ b.toNat ≤ 102 then b.toNat - 87 else -1

theorem Num.fromHex_hit {k : Nat} {b : UInt8} (hk : k < 16) (h : Num.hexd k = b) : Num.fromHex b = k := by
  have : ∀ k : Fin 16, Num.fromHex (Num.hexd k.1) = (k.1 : Int) := by decide
  subst h
  exact this ⟨k, hk⟩
theorem Num.fromHex_miss {b : UInt8} (h : ∀ j, j < 16 → Num.hexd j ≠ b) : Num.fromHex b = -1 := by
  have ofn : ∀ n, n = b.toNat → UInt8.ofNat n = b := by intro n hn; subst hn; exact UInt8.ofNat_toNat
  unfold Num.fromHex
  by_cases h1 : 48 ≤ b.toNat ∧ b.toNat ≤ 57
  · exact absurd (by unfold Num.hexd; rw [if_pos (by omega)]; exact ofn _ (by omega)) (h (b.toNat - 48) (by omega))
  · by_cases h2 : 97 ≤ b.toNat ∧ b.toNat ≤ 102
    · exact absurd (by unfold Num.hexd; rw [if_neg (by omega)]; exact ofn _ (by omega)) (h (b.toNat - 87) (by omega))
    · rw [if_neg h1, if_neg h2]
theorem Num.fromHex_bd (b : UInt8) : -1 ≤ Num.fromHex b ∧ Num.fromHex b < 16 := by
  unfold Num.fromHex; split
  · omega
  · split <;> omega

set_option maxHeartbeats 400000 in
set_option maxRecDepth 100000 in
theorem l1FromHex_any (b : UInt8) (w : World) :
    Calls Try.prog 25 #[.int .u8 b.toNat] w fun e w' => e = .returned (.int .i64 (Num.fromHex b)) ∧ w = w' := by
  go_enter Try.func25, Try.ntmps25
  go_wp2
  go_loop [3] (fun iv => ∃ k : Nat, k ≤ 16 ∧ iv = .int .i64 k ∧ ∀ j, j < k → Num.hexd j ≠ b) (fun i => 16 - (intOf i).toNat)
  case atStart => exact ⟨0, by omega, rfl, fun j h => absurd h (Nat.not_lt_zero _)⟩
  case round =>
    obtain ⟨k, hk, rfl, hno⟩ := hrel
    have Hno := Lib.hid hno
    clear hno
    by_cases hlt : k < 16
    · cases hd : (((Num.hexd k).toNat : Int) == (b.toNat : Int)) with
      | true =>
        have Hd := Lib.hid hd
        go_wp2_with (go_at_call 24; refine (l1Digit_int _ (by omega) (by omega) _).mono ?_; rintro e w' ⟨rfl, rfl⟩)
        go_ret
        have he : Num.hexd k = b := by
          have := Hd.out
          rw [beq_iff_eq] at this
          exact UInt8.toNat_inj.1 (by omega)
        exact ⟨by rw [Num.fromHex_hit hlt he]; rfl, rfl⟩
      | false =>
        have Hd := Lib.hid hd
        go_wp2_with (go_at_call 24; refine (l1Digit_int _ (by omega) (by omega) _).mono ?_; rintro e w' ⟨rfl, rfl⟩)
        go_round
        case rel =>
          refine ⟨k + 1, by omega, by go_num, fun j hj => ?_⟩
          rcases Nat.lt_succ_iff_lt_or_eq.1 hj with hj | rfl
          · exact Hno.out j hj
          · intro he
            have := Hd.out
            rw [he] at this
            simp at this
        case measure => simp [intOf]; omega
    · obtain rfl : k = 16 := by omega
      go_wp2
      go_ret
      exact ⟨by rw [Num.fromHex_miss Hno.out]; rfl, rfl⟩

/-- what Unhex gives -/
def Num.unhex : List UInt8 → Option (List UInt8)
  | [] => some []
  | [_] => none
  | a :: b :: l => if Num.fromHex a < 0 ∨ Num.fromHex b < 0 then none else (Num.unhex l).map (UInt8.ofNat (16 * Num.fromHex a + Num.fromHex b).toNat :: ·)
theorem Num.unhex_append : ∀ (n : Nat) (l m : List UInt8), l.length = 2 * n → Num.unhex (l ++ m) = (Num.unhex l).bind fun x => (Num.unhex m).map (x ++ ·)
  | 0, l, m, h => by
    obtain rfl := List.eq_nil_of_length_eq_zero (by simpa using h)
    simp [Num.unhex]
  | n + 1, l, m, h => by
    match l, h with
    | a :: b :: l, h =>
      simp only [List.cons_append, Num.unhex]
      split
      · rfl
      · rw [Num.unhex_append n l m (by simp at h; omega)]
        cases Num.unhex l <;> simp [Function.comp_def]
theorem Num.unhex_odd : ∀ (n : Nat) (l : List UInt8), l.length = 2 * n + 1 → Num.unhex l = none
  | 0, l, h => by
    match l, h with
    | [_], _ => rfl
  | n + 1, l, h => by
    match l, h with
    | a :: b :: l, h =>
      simp only [Num.unhex]
      split
      · rfl
      · rw [Num.unhex_odd n l (by simp at h; omega)]; rfl
theorem Num.take_two (s : ByteArray) (k : Nat) (h : 2 * k + 1 < s.size) : s.data.toList.take (2 * (k + 1)) = s.data.toList.take (2 * k) ++ [s[2 * k], s[2 * k + 1]] := by
  rw [show 2 * (k + 1) = 2 * k + 1 + 1 by omega, Kit.take_snoc s _ h, Kit.take_snoc s _ (by omega)]
  simp
theorem Num.drop_two (s : ByteArray) (k : Nat) (h : 2 * k + 1 < s.size) : s.data.toList = s.data.toList.take (2 * k) ++ s[2 * k] :: s[2 * k + 1] :: s.data.toList.drop (2 * (k + 1)) := by
  have := Num.take_two s k h
  have e := List.take_append_drop (2 * (k + 1)) s.data.toList
  rw [this] at e
  simpa using e.symm
theorem Num.unhex_step {s : ByteArray} {k : Nat} {acc : List UInt8} (h : 2 * k + 1 < s.size) (ha : Num.unhex (s.data.toList.take (2 * k)) = some acc) (h1 : 0 ≤ Num.fromHex s[2 * k]) (h2 : 0 ≤ Num.fromHex s[2 * k + 1]) :
    Num.unhex (s.data.toList.take (2 * (k + 1))) = some (acc ++ [UInt8.ofNat (16 * Num.fromHex s[2 * k] + Num.fromHex s[2 * k + 1]).toNat]) := by
  rw [Num.take_two s k h, Num.unhex_append k _ _ (by simp; omega), ha]
  simp only [Num.unhex]
  rw [if_neg (by omega)]
  rfl
theorem Num.unhex_bad {s : ByteArray} {k : Nat} {acc : List UInt8} (h : 2 * k + 1 < s.size) (ha : Num.unhex (s.data.toList.take (2 * k)) = some acc) (h1 : Num.fromHex s[2 * k] < 0 ∨ Num.fromHex s[2 * k + 1] < 0) :
    Num.unhex s.data.toList = none := by
  rw [Num.drop_two s k h, Num.unhex_append k _ _ (by simp; omega), ha]
  simp only [Num.unhex]
  rw [if_pos h1]
  rfl

set_option maxHeartbeats 400000 in
theorem specUnhex_odd (s : ByteArray) (hs : (s.size : Int) ≤ 1048576) (h : ((s.size : Int) % 2 == 1) = true) (w : World) :
    Calls Try.prog 19 #[.string s] w fun e w' => e = .returned (.tuple #[.string ⟨#[]⟩, .bool false]) ∧ Below w.heap.size w w' := by
  go_enter Try.func19, Try.ntmps19
  go_wp2
  go_ret2
  exact ⟨rfl, (Below.refl _ _).alloc (Nat.le_refl _) _⟩

set_option maxHeartbeats 400000 in
set_option maxRecDepth 100000 in
theorem specUnhex_even (s : ByteArray) (hs : (s.size : Int) ≤ 1048576) (n : Nat) (hn : s.size = 2 * n) (h : ((s.size : Int) % 2 == 1) = false) (w : World) :
    Calls Try.prog 19 #[.string s] w fun e w' => e = .returned (.tuple #[.string ⟨((Num.unhex s.data.toList).getD []).toArray⟩, .bool (Num.unhex s.data.toList).isSome]) ∧ Below w.heap.size w w' := by
  obtain ⟨i0, hi, hz0, hz1, hz2⟩ := info_parts info_u8
  have Hn := Lib.hid hn
  clear hn
  go_enter Try.func19, Try.ntmps19
  go_wp2
  go_loopw [4, 5] (fun ov iv wr => ∃ (k : Nat) (acc : List UInt8), k ≤ n ∧ acc.length = k ∧ iv = .int .i64 (2 * (k : Int)) ∧ wr.ownsRow w.heap.size 5 1 ov k (Kit.bcells acc) ∧ Num.unhex (s.data.toList.take (2 * k)) = some acc ∧ Below w.heap.size w wr) (fun _ i _ => s.size - (intOf i).toNat)
  case atStart => exact ⟨0, [], Nat.zero_le _, rfl, rfl, World.ownsRow_lit w #[] 0 (Nat.le_refl _) (Nat.zero_le _) rfl, rfl, (Below.refl _ _).alloc (Nat.le_refl _) _⟩
  case round =>
    obtain ⟨k, acc, hk, hla, rfl, hown, hac, hb⟩ := hrel
    have hsz := hb.size
    have Hla := Lib.hid hla
    have Hac := Lib.hid hac
    clear hla hac
    have hss : s.size ≤ 2 * n := by have := Hn.out; omega
    have hss2 : 2 * n ≤ s.size := by have := Hn.out; omega
    by_cases hlt : k < n
    · have b1 := Num.fromHex_bd s[2 * k]
      have b2 := Num.fromHex_bd s[2 * k + 1]
      have hlt2 : 2 * k + 1 < s.size := by omega
      by_cases h1 : Num.fromHex s[2 * k] < 0
      · have Hbad := Lib.hid (Num.unhex_bad hlt2 Hac.out (Or.inl h1))
        go_wp2_with (first | (go_at_call 25; refine (l1FromHex_any _ _).mono ?_; rintro e w' ⟨rfl, rfl⟩))
        go_ret2
        exact ⟨by rw [Hbad.out]; rfl, hb⟩
      · by_cases h2 : Num.fromHex s[2 * k + 1] < 0
        · have Hbad := Lib.hid (Num.unhex_bad hlt2 Hac.out (Or.inr h2))
          go_wp2_with (first | (go_at_call 25; refine (l1FromHex_any _ _).mono ?_; rintro e w' ⟨rfl, rfl⟩))
          go_ret2
          exact ⟨by rw [Hbad.out]; rfl, hb⟩
        · have Hst := Lib.hid (Num.unhex_step hlt2 Hac.out (by omega) (by omega))
          go_wp2_with (first | (go_at_call 25; refine (l1FromHex_any _ _).mono ?_; rintro e w' ⟨rfl, rfl⟩) | (at_builtin; refine Kit.append_byte wr rfl _ _ 36 rfl w.heap.size 5 i0 Try.underlying36 hi hz0 hz1 hz2 u4 k acc rfl hown Hla.out.symm (16 * Num.fromHex s[2 * k] + Num.fromHex s[2 * k + 1]) (by omega) (by omega) rfl (by rw [Hla.out]; omega) hsz ?_; intro v' w1 hown' hgrow))
          have hb' := Kit.below_own hb hown hgrow
          go_roundw
          case rel => exact ⟨k + 1, _, by omega, by rw [List.length_append, Hla.out]; rfl, by go_num, hown', Hst.out, hb'⟩
          case measure => simp [intOf]; omega
    · have hfull := Kit.take_full s (2 * k) (by omega)
      rw [hfull] at Hac
      have hcv := Kit.conv_own (P := Try.prog) Try.underlying36 Try.underlying5 Try.underlying9 hown Hla.out.symm
      clear hfull
      go_wp2
      go_ret2
      exact ⟨by rw [Hac.out]; rfl, hb⟩

theorem Num.idxHex : ∀ n : Fin 256, Lib.indexByte [48, 49, 50, 51, 52, 53, 54, 55, 56, 57, 97, 98, 99, 100, 101, 102] (UInt8.ofNat n.1) = Num.fromHex (UInt8.ofNat n.1) := by decide +kernel
theorem indexHex_any (b : UInt8) (w : World) :
    Calls Try.prog 26 #[.string ⟨#[48, 49, 50, 51, 52, 53, 54, 55, 56, 57, 97, 98, 99, 100, 101, 102]⟩, .int .u8 b.toNat] w fun e w' => e = .returned (.int .i64 (Num.fromHex b)) ∧ w = w' := by
  refine (Try.strings_IndexByte ⟨#[48, 49, 50, 51, 52, 53, 54, 55, 56, 57, 97, 98, 99, 100, 101, 102]⟩ b.toNat w).mono ?_
  rintro e w' ⟨rfl, rfl⟩
  have h := Num.idxHex ⟨b.toNat, b.toNat_lt⟩
  have hb : UInt8.ofNat b.toNat = b := UInt8.ofNat_toNat
  rw [hb] at h
  refine ⟨?_, rfl⟩
  rw [← h]
  rw [Int.toNat_natCast]
  show Ending.returned (.int .i64 (Lib.indexByte _ (UInt8.ofNat b.toNat))) = _
  rw [hb]

theorem Kit.or16 (x y : Nat) (hx : x < 16) (hy : y < 16) : bits .or .i64 ((x : Int) * 16) (y : Int) = 16 * (x : Int) + y := by
  have h := Kit.i64_or (x * 16) y (by omega) (by omega)
  rw [nat_join 4 (x * 16) y (by omega) (by omega)] at h
  rw [Int.mul_comm 16]
  simpa using h
theorem Kit.or16i {x y : Int} (h0 : 0 ≤ x) (h1 : x < 16) (h2 : 0 ≤ y) (h3 : y < 16) : bits .or .i64 (x * 16) y = 16 * x + y := by
  obtain ⟨a, rfl⟩ := Int.eq_ofNat_of_zero_le h0
  obtain ⟨b, rfl⟩ := Int.eq_ofNat_of_zero_le h2
  exact Kit.or16 a b (by omega) (by omega)

set_option maxHeartbeats 400000 in
theorem implUnhex_odd (s : ByteArray) (hs : (s.size : Int) ≤ 1048576) (h : ((s.size : Int) % 2 != 0) = true) (w : World) :
    Calls Try.prog 20 #[.string s] w fun e w' => e = .returned (.tuple #[.string ⟨#[]⟩, .bool false]) ∧ w = w' := by
  go_enter Try.func20, Try.ntmps20
  go_wp2
  go_ret2
  exact ⟨rfl, rfl⟩

set_option maxHeartbeats 400000 in
set_option maxRecDepth 100000 in
theorem implUnhex_even (s : ByteArray) (hs : (s.size : Int) ≤ 1048576) (n : Nat) (hn : s.size = 2 * n) (h : ((s.size : Int) % 2 != 0) = false) (w : World) :
    Calls Try.prog 20 #[.string s] w fun e w' => e = .returned (.tuple #[.string ⟨((Num.unhex s.data.toList).getD []).toArray⟩, .bool (Num.unhex s.data.toList).isSome]) ∧ Below w.heap.size w w' := by
  obtain ⟨i0, hi, hz0, hz1, hz2⟩ := info_parts info_u8
  have Hn := Lib.hid hn
  clear hn
  go_enter Try.func20, Try.ntmps20
  go_wp2_with (at_make; refine wpList_make_own _ rfl _ _ 36 rfl w.heap.size 5 i0 (.int .u8 0) 1 Try.underlying36 hi hz0 hz1 _ _ _ (s.size / 2) rfl rfl (by omega) (by rw [hz2]; omega) (by unfold maxLen; omega) (Nat.le_refl _) ?_; intro w1 hown1 hgrow1)
  have hb1 : Below w.heap.size w w1 := (Below.refl _ w).grown hgrow1 (Nat.le_refl _) (fun _ h => by cases h)
  go_loopw [4, 5] (fun ov iv wr => ∃ (k : Nat) (acc : List UInt8), k ≤ n ∧ acc.length = k ∧ iv = .int .i64 (2 * (k : Int)) ∧ wr.ownsRow w.heap.size 5 1 ov k (Kit.bcells acc) ∧ Num.unhex (s.data.toList.take (2 * k)) = some acc ∧ Below w.heap.size w wr) (fun _ i _ => s.size - (intOf i).toNat)
  case atStart => exact ⟨0, [], Nat.zero_le _, rfl, rfl, hown1, rfl, hb1⟩
  case round =>
    obtain ⟨k, acc, hk, hla, rfl, hown, hac, hb⟩ := hrel
    have hsz := hb.size
    have Hla := Lib.hid hla
    have Hac := Lib.hid hac
    clear hla hac
    have hss : s.size ≤ 2 * n := by have := Hn.out; omega
    have hss2 : 2 * n ≤ s.size := by have := Hn.out; omega
    by_cases hlt : k < n
    · have b1 := Num.fromHex_bd s[2 * k]
      have b2 := Num.fromHex_bd s[2 * k + 1]
      have hlt2 : 2 * k + 1 < s.size := by omega
      by_cases h1 : Num.fromHex s[2 * k] < 0
      · have Hbad := Lib.hid (Num.unhex_bad hlt2 Hac.out (Or.inl h1))
        go_wp2_with (first | (go_at_call 26; refine (indexHex_any _ _).mono ?_; rintro e w' ⟨rfl, rfl⟩))
        go_ret2
        exact ⟨by rw [Hbad.out]; rfl, hb⟩
      · by_cases h2 : Num.fromHex s[2 * k + 1] < 0
        · have Hbad := Lib.hid (Num.unhex_bad hlt2 Hac.out (Or.inr h2))
          go_wp2_with (first | (go_at_call 26; refine (indexHex_any _ _).mono ?_; rintro e w' ⟨rfl, rfl⟩))
          go_ret2
          exact ⟨by rw [Hbad.out]; rfl, hb⟩
        · have Hst := Lib.hid (Num.unhex_step hlt2 Hac.out (by omega) (by omega))
          have hor := Kit.or16i (x := Num.fromHex s[2 * k]) (y := Num.fromHex s[2 * k + 1]) (by omega) (by omega) (by omega) (by omega)
          go_wp2_with (first | (go_at_call 26; refine (indexHex_any _ _).mono ?_; rintro e w' ⟨rfl, rfl⟩) | (at_builtin; go_loud (refine Kit.append_byte wr rfl _ _ 36 rfl w.heap.size 5 i0 Try.underlying36 hi hz0 hz1 hz2 u4 k acc rfl hown Hla.out.symm (16 * Num.fromHex s[2 * k] + Num.fromHex s[2 * k + 1]) (by omega) (by omega) rfl (by rw [Hla.out]; omega) hsz ?_); intro v' w1 hown' hgrow))
          have hb' := Kit.below_own hb hown hgrow
          go_roundw
          case rel => exact ⟨k + 1, _, by omega, by rw [List.length_append, Hla.out]; rfl, by go_num, hown', Hst.out, hb'⟩
          case measure => simp [intOf]; omega
    · have hfull := Kit.take_full s (2 * k) (by omega)
      rw [hfull] at Hac
      have hcv := Kit.conv_own (P := Try.prog) Try.underlying36 Try.underlying5 Try.underlying9 hown Hla.out.symm
      clear hfull
      go_wp2
      go_ret2
      exact ⟨by rw [Hac.out]; rfl, hb⟩

def Num.unhexS (s : ByteArray) : List UInt8 := (Num.unhex s.data.toList).getD []
def Num.unhexB (s : ByteArray) : Bool := (Num.unhex s.data.toList).isSome
theorem specUnhex_any (s : ByteArray) (hs : s.size ≤ 1048576) (w : World) :
    Calls Try.prog 19 #[.string s] w fun e w' => e = .returned (.tuple #[.string ⟨(Num.unhexS s).toArray⟩, .bool (Num.unhexB s)]) ∧ Below w.heap.size w w' := by
  by_cases ho : s.size % 2 = 1
  · have hno := Num.unhex_odd (s.size / 2) s.data.toList (by simp; omega)
    refine (specUnhex_odd s (by omega) (by simp; omega) w).mono ?_
    rintro e w' ⟨rfl, hb⟩
    exact ⟨by unfold Num.unhexS Num.unhexB; rw [hno]; rfl, hb⟩
  · exact specUnhex_even s (by omega) (s.size / 2) (by omega) (by simp; omega) w
theorem implUnhex_any (s : ByteArray) (hs : s.size ≤ 1048576) (w : World) :
    Calls Try.prog 20 #[.string s] w fun e w' => e = .returned (.tuple #[.string ⟨(Num.unhexS s).toArray⟩, .bool (Num.unhexB s)]) ∧ Below w.heap.size w w' := by
  by_cases ho : s.size % 2 = 1
  · have hno := Num.unhex_odd (s.size / 2) s.data.toList (by simp; omega)
    refine (implUnhex_odd s (by omega) (by simp; omega) w).mono ?_
    rintro e w' ⟨rfl, rfl⟩
    exact ⟨by unfold Num.unhexS Num.unhexB; rw [hno]; rfl, Below.refl _ _⟩
  · exact implUnhex_even s (by omega) (s.size / 2) (by omega) (by simp; omega) w

set_option maxHeartbeats 400000 in
theorem exactUnhex_walk (s : ByteArray) (hs : s.size ≤ maxLen) (w : World) :
    Calls Try.prog 8 #[.string s] w fun e w' => e = .returned (.bool true) ∧ Below w.heap.size w w' := by
  unfold maxLen at hs
  by_cases hbig : (1048576 : Int) < s.size
  · go_enter Try.func8, Try.ntmps8
    go_wp2
    go_ret
    exact ⟨rfl, Below.refl _ _⟩
  · have h2 : s.size ≤ 1048576 := by omega
    go_enter Try.func8, Try.ntmps8
    go_wp2_with fail
    refine (specUnhex_any s h2 _).mono ?_
    rintro e w1 ⟨rfl, hb1⟩
    go_wp2_with fail
    refine (implUnhex_any s h2 _).mono ?_
    rintro e w2 ⟨rfl, hb2⟩
    go_wp2
    all_goals go_ret
    all_goals exact ⟨rfl, hb1.trans (hb2.mono hb1.size)⟩

end Go.Proofs.Ytbdhhmcebjpgeaa
