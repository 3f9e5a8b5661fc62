/- The contracts of ReadVar, the model's and the program's. -/
import Derived.Test.YtbdhhmcebjpgeaaVar
import Derived.BigQuiet
import Derived.Lib.Strings
namespace Go.Proofs.Ytbdhhmcebjpgeaa
open Go.RowKit
set_option linter.unusedVariables false

/-- the number of seven bits a byte, the least significant first -/
def Num.val7 : List UInt8 → Nat
  | [] => 0
  | b :: l => b.toNat % 128 + 128 * Num.val7 l
theorem Num.val7_lt (l : List UInt8) : Num.val7 l < 128 ^ l.length := by
  induction l with
  | nil => simp [Num.val7]
  | cons b l ih =>
    simp only [Num.val7, List.length_cons, Nat.pow_succ]
    have : b.toNat % 128 < 128 := Nat.mod_lt _ (by decide)
    omega
theorem Num.val7_small (l : List UInt8) (h : l.length ≤ 7) : Num.val7 l ≤ 562949953421311 := by
  have h1 := Num.val7_lt l
  have h2 : 128 ^ l.length ≤ 128 ^ 7 := Nat.pow_le_pow_right (by omega) h
  omega
theorem Num.val7_small6 (l : List UInt8) (h : l.length ≤ 6) : Num.val7 l ≤ 4398046511103 := by
  have h1 := Num.val7_lt l
  have h2 : 128 ^ l.length ≤ 128 ^ 6 := Nat.pow_le_pow_right (by omega) h
  omega
/-- the length up to the first byte below 128, among the first seven -/
def Num.vsz : Nat → List UInt8 → Nat → Nat
  | 0, _, _ => 0
  | _ + 1, [], _ => 0
  | f + 1, b :: l, i => if b.toNat < 128 then i + 1 else Num.vsz f l (i + 1)
def Num.vsize (l : List UInt8) : Nat := Num.vsz 7 l 0
theorem Num.vsz_le (f : Nat) : ∀ (l : List UInt8) (i : Nat), Num.vsz f l i = 0 ∨ (i < Num.vsz f l i ∧ Num.vsz f l i ≤ i + f ∧ Num.vsz f l i ≤ i + l.length) := by
  induction f with
  | zero => intro l i; left; rfl
  | succ f ih =>
    intro l i
    cases l with
    | nil => left; rfl
    | cons b l =>
      simp only [Num.vsz, List.length_cons]
      split
      · right; omega
      · rcases ih l (i + 1) with h | h
        · left; exact h
        · right; omega
theorem Num.vsize_le (l : List UInt8) : Num.vsize l ≤ 7 ∧ Num.vsize l ≤ l.length := by
  have := Num.vsz_le 7 l 0
  unfold Num.vsize; omega
theorem Num.vsz_var : ∀ (f q : Nat) (rest : List UInt8) (i : Nat), q < 128 ^ (f + 1) → Num.vsz (f + 1) (Num.varF f q ++ rest) i = i + (Num.varF f q).length
  | 0, q, rest, i, h => by
    have hq : q < 128 := by simpa using h
    simp [Num.varF, Num.vsz, UInt8.toNat_ofNat', Nat.mod_eq_of_lt (show q < 256 by omega), hq]
  | f + 1, q, rest, i, h => by
    by_cases hq : q < 128
    · rw [Num.varF_small _ _ hq]
      simp [Num.vsz, UInt8.toNat_ofNat', Nat.mod_eq_of_lt (show q < 256 by omega), hq]
    · rw [Num.varF_big _ _ (by omega)]
      have hb : (UInt8.ofNat (128 + q % 128)).toNat = 128 + q % 128 := by rw [UInt8.toNat_ofNat']; omega
      simp only [List.cons_append, Num.vsz, hb, List.length_cons]
      rw [if_neg (by omega), Num.vsz_var f (q / 128) rest (i + 1) (by rw [Nat.pow_succ] at h; exact Nat.div_lt_of_lt_mul (by omega))]
      omega
/-- is the beginning of k bytes the varint of what it says? -/
def Num.good (l : List UInt8) (k : Nat) : Prop := Num.varF 6 (Num.val7 (l.take k)) = l.take k
theorem Num.good_size {l : List UInt8} {k : Nat} (h7 : k ≤ 7) (hk : k ≤ l.length) (h : Num.good l k) : Num.vsize l = k := by
  have h1 : l = Num.varF 6 (Num.val7 (l.take k)) ++ l.drop k := by
    rw [h]; exact (List.take_append_drop k l).symm
  have h2 := Num.vsz_var 6 (Num.val7 (l.take k)) (l.drop k) 0 (by
    have := Num.val7_small (l.take k) (by simp; omega)
    omega)
  rw [← h1, h] at h2
  unfold Num.vsize
  rw [h2]; simp; omega
instance (l : List UInt8) (k : Nat) : Decidable (Num.good l k) := by unfold Num.good; infer_instance
/-- what ReadVar gives -/
def Num.rvK (s : ByteArray) : Nat := if Num.good s.data.toList (Num.vsize s.data.toList) then Num.vsize s.data.toList else 0
def Num.rvN (s : ByteArray) : Nat := Num.val7 (s.data.toList.take (Num.rvK s))
theorem Num.rv_good {s : ByteArray} {k : Nat} (h7 : k ≤ 7) (hk : k ≤ s.size) (h : Num.good s.data.toList k) : Num.rvK s = k ∧ Num.rvN s = Num.val7 (s.data.toList.take k) := by
  have hs := Num.good_size h7 (by simpa using hk) h
  have : Num.rvK s = k := by unfold Num.rvK; rw [hs, if_pos h]
  exact ⟨this, by unfold Num.rvN; rw [this]⟩
theorem Num.not_good_zero (l : List UInt8) : ¬ Num.good l 0 := by
  unfold Num.good
  simp [Num.val7, Num.varF]
theorem Num.rv_none {s : ByteArray} (h : ∀ k, 1 ≤ k → k ≤ 7 → k ≤ s.size → ¬ Num.good s.data.toList k) : Num.rvK s = 0 ∧ Num.rvN s = 0 := by
  have h0 : Num.rvK s = 0 := by
    unfold Num.rvK
    split
    · rename_i hg
      have hle := Num.vsize_le s.data.toList
      rcases Nat.eq_zero_or_pos (Num.vsize s.data.toList) with hz | hz
      · exact hz
      · exact absurd hg (h _ hz hle.1 (by simpa using hle.2))
    · rfl
  exact ⟨h0, by unfold Num.rvN; rw [h0]; rfl⟩

/-- the value of the bytes from i on, among the first k -/
theorem Num.val7_drop (s : ByteArray) (k i : Nat) (hi : i < k) (hk : k ≤ s.size) : Num.val7 ((s.data.toList.take k).drop i) = s[i].toNat % 128 + 128 * Num.val7 ((s.data.toList.take k).drop (i + 1)) := by
  have hl : i < (s.data.toList.take k).length := by simp; omega
  rw [List.drop_eq_getElem_cons hl]
  simp only [Num.val7]
  rw [List.getElem_take]
  rfl

theorem Num.good_test {s : ByteArray} {k : Nat} (h7 : k ≤ 7) : (Num.varR (Num.val7 (s.data.toList.take k) : Nat) == (s.extract 0 k).toList) = decide (Num.good s.data.toList k) := by
  have hs := Num.val7_small (s.data.toList.take k) (by simp; omega)
  have e : (s.extract 0 k).toList = s.data.toList.take k := by rw [Lib.extract_toList]; simp
  unfold Num.varR Num.good
  rw [if_pos (by omega), e, Int.toNat_natCast]
  rw [Bool.eq_iff_iff, beq_iff_eq]; exact decide_eq_true_iff.symm

set_option maxHeartbeats 400000 in
set_option maxRecDepth 100000 in
theorem specReadVar_any (s : ByteArray) (hs : s.size ≤ maxLen) (w : World) :
    Calls Try.prog 15 #[.string s] w fun e w' => e = .returned (.tuple #[.int .i64 (Num.rvN s), .int .i64 (Num.rvK s)]) ∧ Below w.heap.size w w' := by
  unfold maxLen at hs
  go_enter Try.func15, Try.ntmps15
  go_wp2
  go_loopw [4] (fun kv wr => ∃ k : Nat, 1 ≤ k ∧ kv = .int .i64 k ∧ (k : Int) ≤ 8 ∧ k ≤ s.size + 1 ∧ (∀ j, 1 ≤ j → j < k → ¬ Num.good s.data.toList j) ∧ Below w.heap.size w wr) (fun i _ => 8 - (intOf i).toNat)
  case atStart => exact ⟨1, Nat.le_refl _, rfl, by omega, by omega, fun j h1 h2 => by omega, Below.refl _ _⟩
  case round =>
    obtain ⟨k, hk1, rfl, hk8, hks, hno, hb⟩ := hrel
    have Hno := Lib.hid hno
    clear hno
    by_cases hlt : k ≤ 7 ∧ k ≤ s.size
    · obtain ⟨h7, hk⟩ := hlt
      go_wp2
      go_loop [5, 6] (fun nv iv => ∃ i : Nat, i ≤ k ∧ iv = .int .i64 ((i : Int) - 1) ∧ nv = .int .i64 (Num.val7 ((s.data.toList.take k).drop i))) (fun _ i => (intOf i + 1).toNat)
      case atStart => exact ⟨k, Nat.le_refl _, rfl, by rw [List.drop_eq_nil_of_le (List.length_take_le _ _)]; rfl⟩
      case round =>
        obtain ⟨i, hi, rfl, rfl⟩ := hrel
        by_cases hp : 0 < i
        · have hi1 : i - 1 < k := by omega
          have hbt : s[i - 1].toNat < 256 := s[i - 1].toNat_lt
          have hsm := Num.val7_small6 ((s.data.toList.take k).drop i) (by simp; omega)
          have hdr := Num.val7_drop s k (i - 1) hi1 hk
          rw [show i - 1 + 1 = i by omega] at hdr
          have Hdr := Lib.hid hdr
          clear hdr
          have hidx : ((i : Int) - 1).toNat = i - 1 := by omega
          go_wp2
          go_round
          case rel =>
            refine ⟨i - 1, by omega, by rw [show ((i : Int) - 1 - 1) = ((i - 1 : Nat) : Int) - 1 by omega], ?_⟩
            rw [Hdr.out]
            go_num
          case measure => simp [intOf]; omega
        · obtain rfl : i = 0 := by omega
          have hv := Num.val7_small ((s.data.toList.take k).drop 0) (by simp; omega)
          go_wp2
          go_region_law ((go_simp; go_at_call 13; refine (specVar_any _ _).mono ?_; rintro e w' ⟨rfl, hb1⟩))
          go_wp2
          · have ht : (Num.varR (Num.val7 (s.data.toList.take k) : Nat) == (s.extract 0 k).toList) = true := by assumption
            have hg : Num.good s.data.toList k := by simpa [Num.good_test h7] using ht
            obtain ⟨e1, e2⟩ := Num.rv_good h7 hk hg
            go_ret2
            refine ⟨by rw [e1, e2]; rfl, ?_⟩
            exact hb.drew.trans (hb1.mono (by have := hb.size; simpa using this))
          · have ht : (Num.varR (Num.val7 (s.data.toList.take k) : Nat) == (s.extract 0 k).toList) = false := by assumption
            have hg : ¬ Num.good s.data.toList k := by simpa [Num.good_test h7] using ht
            go_roundw
            case rel =>
              refine ⟨k + 1, by omega, by go_num, by omega, by omega, fun j h1 h2 => ?_, hb.drew.trans (hb1.mono (by have := hb.size; simpa using this))⟩
              rcases Nat.lt_succ_iff_lt_or_eq.1 h2 with h2 | rfl
              · exact Hno.out j h1 h2
              · exact hg
            case measure => simp [intOf]; omega
    · have hn := Num.rv_none (s := s) (fun j h1 h2 h3 => Hno.out j h1 (by omega))
      by_cases h7 : k ≤ 7
      · have hks2 : (s.size : Int) < k := by omega
        clear hlt
        have Hn := Lib.hid hn
        clear hn
        go_wp2
        go_ret2
        exact ⟨by rw [Hn.out.1, Hn.out.2]; rfl, hb⟩
      · clear hlt
        have Hn := Lib.hid hn
        clear hn
        go_wp2
        go_ret2
        exact ⟨by rw [Hn.out.1, Hn.out.2]; rfl, hb⟩

set_option maxHeartbeats 400000 in
theorem implVar_max (w : World) :
    Calls Try.prog 14 #[.int .i64 562949953421311] w fun e w' => e = .returned (.string ⟨#[255, 255, 255, 255, 255, 255, 127]⟩) ∧ Below w.heap.size w w' := by
  refine (implVar_any 562949953421311 w).mono ?_
  rintro e w' ⟨rfl, hb⟩
  exact ⟨by rw [show Num.varR 562949953421311 = [255, 255, 255, 255, 255, 255, 127] by decide +kernel], hb⟩

theorem Num.vsz_skip (s : ByteArray) : ∀ (k f : Nat), k ≤ s.size → (∀ j (h : j < s.size), j < k → 128 ≤ s[j].toNat) → Num.vsz (k + f) s.data.toList 0 = Num.vsz f (s.data.toList.drop k) k := by
  have key : ∀ (k f i : Nat) (l : List UInt8), k ≤ l.length → (∀ j (h : j < l.length), j < k → 128 ≤ l[j].toNat) → Num.vsz (k + f) l i = Num.vsz f (l.drop k) (i + k) := by
    intro k
    induction k with
    | zero => intro f i l _ _; simp
    | succ k ih =>
      intro f i l hk h
      cases l with
      | nil => simp at hk
      | cons b l =>
        have h0 := h 0 (by simp) (by omega)
        simp at h0
        rw [show k + 1 + f = (k + f) + 1 by omega]
        simp only [Num.vsz]
        rw [if_neg (by omega), ih f (i + 1) l (by simpa using hk) (fun j hj hjk => by
          have := h (j + 1) (by simpa using hj) (by omega)
          simpa using this)]
        simp
        congr 1; omega
  intro k f hk h
  have := key k f 0 s.data.toList (by simpa using hk) (fun j hj hjk => h j (by simpa using hj) hjk)
  simpa using this
theorem Num.vsize_hit {s : ByteArray} {k : Nat} (h7 : k < 7) (hk : k < s.size) (h : ∀ j (h : j < s.size), j < k → 128 ≤ s[j].toNat) (hb : s[k].toNat < 128) : Num.vsize s.data.toList = k + 1 := by
  have h1 := Num.vsz_skip s k (7 - k) (by omega) h
  rw [show k + (7 - k) = 7 by omega] at h1
  unfold Num.vsize
  rw [h1, show 7 - k = (6 - k) + 1 by omega, List.drop_eq_getElem_cons (by simpa using hk)]
  simp only [Num.vsz]
  rw [if_pos (by exact hb)]
theorem Num.vsize_miss {s : ByteArray} {k : Nat} (h7 : k ≤ 7) (hk : k ≤ s.size) (hl : k = 7 ∨ k = s.size) (h : ∀ j (h : j < s.size), j < k → 128 ≤ s[j].toNat) : Num.vsize s.data.toList = 0 := by
  have h1 := Num.vsz_skip s k (7 - k) hk h
  rw [show k + (7 - k) = 7 by omega] at h1
  unfold Num.vsize
  rw [h1]
  rcases hl with rfl | rfl
  · rfl
  · rw [List.drop_eq_nil_of_le (by simp)]
    cases 7 - s.size <;> rfl

set_option maxHeartbeats 400000 in
set_option maxRecDepth 100000 in
theorem varSize_any (s : ByteArray) (hs : s.size ≤ maxLen) (w : World) :
    Calls Try.prog 23 #[.string s] w fun e w' => e = .returned (.int .i64 (Num.vsize s.data.toList)) ∧ Below w.heap.size w w' := by
  unfold maxLen at hs
  go_enter Try.func23, Try.ntmps23
  go_wp2_with fail
  refine (implVar_max _).mono ?_
  rintro e w1 ⟨rfl, hb1⟩
  go_wp2
  go_loop [4] (fun iv => ∃ k : Nat, k ≤ 7 ∧ k ≤ s.size ∧ iv = .int .i64 k ∧ ∀ j (h : j < s.size), j < k → 128 ≤ s[j].toNat) (fun i => 7 - (intOf i).toNat)
  case atStart => exact ⟨0, by omega, by omega, rfl, fun j h hj => absurd hj (Nat.not_lt_zero _)⟩
  case round =>
    obtain ⟨k, h7, hk, rfl, hall⟩ := hrel
    have Hall := Lib.hid hall
    clear hall
    by_cases hlt : k < s.size
    · by_cases hl7 : (k : Int) < 7
      · by_cases hbt : s[k].toNat < 128
        · have Hv := Lib.hid (Num.vsize_hit (by omega) hlt Hall.out hbt)
          go_wp2
          go_ret
          exact ⟨by rw [Hv.out]; exact Kit.ret_int (by omega), hb1⟩
        · go_wp2
          go_round
          case rel =>
            refine ⟨k + 1, by omega, by omega, by go_num, fun j hj hjk => ?_⟩
            rcases Nat.lt_succ_iff_lt_or_eq.1 hjk with hjk | rfl
            · exact Hall.out j hj hjk
            · omega
          case measure => simp [intOf]; omega
      · have Hv := Lib.hid (Num.vsize_miss h7 hk (Or.inl (by omega)) Hall.out)
        go_wp2
        go_ret
        exact ⟨by rw [Hv.out]; rfl, hb1⟩
    · have Hv := Lib.hid (Num.vsize_miss h7 hk (Or.inr (by omega)) Hall.out)
      go_wp2
      go_ret
      exact ⟨by rw [Hv.out]; rfl, hb1⟩

set_option maxHeartbeats 400000 in
set_option maxRecDepth 100000 in
theorem implReadVar_any (s : ByteArray) (hs : s.size ≤ maxLen) (w : World) :
    Calls Try.prog 16 #[.string s] w fun e w' => e = .returned (.tuple #[.int .i64 (Num.rvN s), .int .i64 (Num.rvK s)]) ∧ Below w.heap.size w w' := by
  have hsl := hs
  have hvl := Num.vsize_le s.data.toList
  obtain ⟨k, hkd⟩ : ∃ k, k = Num.vsize s.data.toList := ⟨_, rfl⟩
  rw [← hkd] at hvl
  obtain ⟨h7, hk⟩ := hvl
  have hk : k ≤ s.size := by simpa using hk
  have Hkd := Lib.hid hkd
  unfold maxLen at hs
  go_enter Try.func16, Try.ntmps16
  go_wp2_with fail
  refine (varSize_any s hsl _).mono ?_
  rintro e w1 ⟨rfl, hb1⟩
  rw [← hkd]
  clear hkd
  go_wp2
  go_loop [5, 6] (fun nv iv => ∃ i : Nat, i ≤ k ∧ iv = .int .i64 ((i : Int) - 1) ∧ nv = .int .i64 (Num.val7 ((s.data.toList.take k).drop i))) (fun _ i => (intOf i + 1).toNat)
  case atStart => exact ⟨k, Nat.le_refl _, rfl, by rw [List.drop_eq_nil_of_le (List.length_take_le _ _)]; rfl⟩
  case round =>
    obtain ⟨i, hi, rfl, rfl⟩ := hrel
    by_cases hp : 0 < i
    · have hi1 : i - 1 < k := by omega
      have hbt : s[i - 1].toNat < 256 := s[i - 1].toNat_lt
      have hsm := Num.val7_small6 ((s.data.toList.take k).drop i) (by simp; omega)
      have hdr := Num.val7_drop s k (i - 1) hi1 hk
      rw [show i - 1 + 1 = i by omega] at hdr
      have Hdr := Lib.hid hdr
      clear hdr
      have hidx : ((i : Int) - 1).toNat = i - 1 := by omega
      have hand := Kit.and127 s[i - 1].toNat hbt
      have hor : bits .or .i64 ((Num.val7 ((s.data.toList.take k).drop i) : Int) * 128) ((s[i - 1].toNat : Int) % 128) = (Num.val7 ((s.data.toList.take k).drop i) : Int) * 128 + (s[i - 1].toNat : Int) % 128 := by
        have h := Kit.or128 (Num.val7 ((s.data.toList.take k).drop i)) (s[i - 1].toNat % 128) (by omega) (by omega)
        simpa using h
      go_wp2
      go_round
      case rel =>
        refine ⟨i - 1, by omega, by rw [show ((i : Int) - 1 - 1) = ((i - 1 : Nat) : Int) - 1 by omega], ?_⟩
        rw [Hdr.out]
        go_num
      case measure => simp [intOf]; omega
    · obtain rfl : i = 0 := by omega
      have hv := Num.val7_small ((s.data.toList.take k).drop 0) (by simp; omega)
      have hsz1 := hb1.size
      go_wp2
      go_region_law ((go_simp; go_at_call 14; refine (implVar_any _ _).mono ?_; rintro e w' ⟨rfl, hb2⟩))
      go_wp2
      · have ht : (!Num.varR (Num.val7 (s.data.toList.take k) : Nat) == (s.extract 0 k).toList) = true := by assumption
        have hg : ¬ Num.good s.data.toList k := by
          rw [Num.good_test h7] at ht
          simpa using ht
        have h0 : Num.rvK s = 0 := by unfold Num.rvK; rw [← Hkd.out, if_neg hg]
        have h1 : Num.rvN s = 0 := by unfold Num.rvN; rw [h0]; rfl
        go_ret2
        exact ⟨by rw [h0, h1]; rfl, hb1.drew.trans (hb2.mono hsz1)⟩
      · have ht : (!Num.varR (Num.val7 (s.data.toList.take k) : Nat) == (s.extract 0 k).toList) = false := by assumption
        have hg : Num.good s.data.toList k := by
          rw [Num.good_test h7] at ht
          simpa using ht
        obtain ⟨e1, e2⟩ := Num.rv_good h7 hk hg
        go_ret2
        exact ⟨by rw [e1, e2]; rfl, hb1.drew.trans (hb2.mono hsz1)⟩

set_option maxHeartbeats 400000 in
theorem exactReadVar_walk (s : ByteArray) (hs : s.size ≤ maxLen) (w : World) :
    Calls Try.prog 6 #[.string s] w fun e w' => e = .returned (.bool true) ∧ Below w.heap.size w w' := by
  have hsl := hs
  unfold maxLen at hs
  by_cases hbig : (1048576 : Int) < s.size
  · go_enter Try.func6, Try.ntmps6
    go_wp2
    go_ret
    exact ⟨rfl, Below.refl _ _⟩
  · go_enter Try.func6, Try.ntmps6
    go_wp2_with fail
    refine (specReadVar_any s hsl _).mono ?_
    rintro e w1 ⟨rfl, hb1⟩
    go_wp2_with fail
    refine (implReadVar_any s hsl _).mono ?_
    rintro e w2 ⟨rfl, hb2⟩
    go_wp2
    all_goals go_ret
    all_goals exact ⟨rfl, hb1.trans (hb2.mono hb1.size)⟩

end Go.Proofs.Ytbdhhmcebjpgeaa
