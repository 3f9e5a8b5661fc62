/- Plain mathematics of the law on numbers. -/
import Derived.Test.YtbdhhmcebjpgeaaDoorC1P
import Derived.Test.YtbdhhmcebjpgeaaDoorDecNum
namespace Go.Proofs.YtbdhhmcebjpgeaaDoor
open Go.RowKit
set_option linter.unusedVariables false

theorem Num.val7_var : ∀ (f q : Nat), q < 128 ^ (f + 1) → Num.val7 (Num.varF f q) = q
  | 0, q, h => by
    have hq : q < 128 := by simpa using h
    simp [Num.varF, Num.val7, UInt8.toNat_ofNat']
    omega
  | f + 1, q, h => by
    by_cases hq : q < 128
    · rw [Num.varF_small _ _ hq]
      simp [Num.val7, UInt8.toNat_ofNat']
      omega
    · rw [Num.varF_big _ _ (by omega)]
      have hb : (UInt8.ofNat (128 + q % 128)).toNat = 128 + q % 128 := by rw [UInt8.toNat_ofNat']; omega
      simp only [Num.val7, hb]
      rw [Num.val7_var f (q / 128) (by rw [Nat.pow_succ] at h; exact Nat.div_lt_of_lt_mul (by omega))]
      omega
theorem Num.varF_ne (f q : Nat) : Num.varF f q ≠ [] := by
  cases f
  · simp [Num.varF]
  · unfold Num.varF; split <;> simp
theorem Num.varF_len (f q : Nat) : (Num.varF f q).length ≤ f + 1 := by
  induction f generalizing q with
  | zero => simp [Num.varF]
  | succ f ih =>
    unfold Num.varF
    split
    · simp
    · simp only [List.length_cons]; have := ih (q / 128); omega

/-- Var of a number in range, and ReadVar of it with something behind -/
theorem Num.var_yes {n : Int} (h0 : 0 ≤ n) (h1 : n ≤ 562949953421311) (T : List UInt8) : ∃ b l, Num.varR n = b :: l ∧ l.length ≤ 6 ∧
    (Num.rvN (⟨(b :: l).toArray⟩ ++ ⟨T.toArray⟩) : Int) = n ∧ Num.rvK (⟨(b :: l).toArray⟩ ++ ⟨T.toArray⟩) = l.length + 1 := by
  obtain ⟨m, rfl⟩ := Int.eq_ofNat_of_zero_le h0
  have hv : Num.varR m = Num.varF 6 m := by unfold Num.varR; rw [if_pos ⟨h0, h1⟩, Int.toNat_natCast]
  have hlen := Num.varF_len 6 m
  cases hc : Num.varF 6 m with
  | nil => exact absurd hc (Num.varF_ne _ _)
  | cons b l =>
    rw [hc] at hlen
    simp only [List.length_cons] at hlen
    refine ⟨b, l, by rw [hv, hc], by omega, ?_⟩
    have hd : ((⟨(b :: l).toArray⟩ : ByteArray) ++ ⟨T.toArray⟩).data.toList = (b :: l) ++ T := by simp [ByteArray.data_append]
    have ht : (((⟨(b :: l).toArray⟩ : ByteArray) ++ ⟨T.toArray⟩).data.toList).take (l.length + 1) = b :: l := by
      rw [hd]; exact List.take_left' (by simp)
    have hval : Num.val7 (b :: l) = m := by rw [← hc]; exact Num.val7_var 6 m (by omega)
    have hg : Num.good ((⟨(b :: l).toArray⟩ : ByteArray) ++ ⟨T.toArray⟩).data.toList (l.length + 1) := by
      unfold Num.good
      rw [ht, hval, hc]
    obtain ⟨e1, e2⟩ := Num.rv_good (s := (⟨(b :: l).toArray⟩ : ByteArray) ++ ⟨T.toArray⟩) (k := l.length + 1) (by omega) (by simp only [ByteArray.size_append, ByteArray.size_mk', List.size_toArray, List.length_cons]; omega) hg
    exact ⟨by rw [e2, ht, hval], e1⟩
theorem Num.var_no {n : Int} (h : n < 0 ∨ 562949953421311 < n) : Num.varR n = [] := by unfold Num.varR; rw [if_neg (by omega)]

theorem Num.rd_cons (b : UInt8) (l : List UInt8) : Num.rd (b :: l) = b.toNat * 256 ^ l.length + Num.rd l := by
  have key : ∀ (l : List UInt8) (a : Nat), l.foldl (fun n b => n * 256 + b.toNat) a = a * 256 ^ l.length + Num.rd l := by
    intro l
    induction l with
    | nil => intro a; simp [Num.rd]
    | cons b l ih =>
      intro a
      have e : Num.rd (b :: l) = b.toNat * 256 ^ l.length + Num.rd l := by
        unfold Num.rd
        rw [List.foldl_cons, ih (0 * 256 + b.toNat)]
        simp [Num.rd]
      rw [List.foldl_cons, ih, e, List.length_cons, Nat.pow_succ, Nat.add_mul, Nat.mul_assoc, Nat.mul_comm 256, Nat.add_assoc]
  have h := key l (0 * 256 + b.toNat)
  unfold Num.rd
  rw [List.foldl_cons, h]
  simp [Num.rd]
theorem Num.rd_fix (m : Nat) : ∀ k, Num.rd (Num.fix m k) = m % 256 ^ k := by
  intro k
  induction k with
  | zero => simp [Num.fix, Num.rd, Nat.mod_one]
  | succ k ih =>
    have hm := Nat.mod_mul (x := m) (a := 256 ^ k) (b := 256)
    have hb : (UInt8.ofNat (Num.dn m k % 256)).toNat = m / 256 ^ k % 256 := by
      rw [UInt8.toNat_ofNat', Num.dn_pow, show (2 : Nat) ^ (8 * k) = 256 ^ k by rw [Nat.pow_mul]]
      exact Nat.mod_eq_of_lt (by omega)
    rw [Num.fix, Num.rd_cons, ih, Num.fix_length, hb, Nat.pow_succ, hm, Nat.mul_comm, Nat.add_comm]
theorem Num.fix_yes {n : Int} (h0 : 0 ≤ n) (h1 : n < 72057594037927936) (T : List UInt8) : ∃ b l, Num.fixR n 7 = b :: l ∧ l.length = 6 ∧
    Num.readB (⟨(b :: l).toArray⟩ ++ ⟨T.toArray⟩) 7 = true ∧ (Num.readN (⟨(b :: l).toArray⟩ ++ ⟨T.toArray⟩) 7 : Int) = n := by
  obtain ⟨m, rfl⟩ := Int.eq_ofNat_of_zero_le h0
  have hd0 : Num.dn m 7 = 0 := by
    rw [Num.dn_pow]
    exact Nat.div_eq_of_lt (by omega)
  have hf : Num.fixR m 7 = Num.fix m 7 := Num.fixR_yes (by omega) (by omega) hd0
  have hlen := Num.fix_length m 7
  have hrd := Num.rd_fix m 7
  cases hc : Num.fix m 7 with
  | nil => rw [hc] at hlen; cases hlen
  | cons b l =>
    rw [hc] at hlen hrd
    simp only [List.length_cons] at hlen
    have hs : ((⟨(b :: l).toArray⟩ : ByteArray) ++ ⟨T.toArray⟩).size = 7 + T.length := by simp only [ByteArray.size_append, ByteArray.size_mk', List.size_toArray, List.length_cons]; omega
    have hB : Num.readB (⟨(b :: l).toArray⟩ ++ ⟨T.toArray⟩) 7 = true := by
      unfold Num.readB; rw [hs]; simp; omega
    refine ⟨b, l, by rw [hf, hc], by omega, hB, ?_⟩
    unfold Num.readN
    rw [hB, if_pos rfl]
    have hd : ((⟨(b :: l).toArray⟩ : ByteArray) ++ ⟨T.toArray⟩).data.toList = (b :: l) ++ T := by simp [ByteArray.data_append]
    have ht : (((⟨(b :: l).toArray⟩ : ByteArray) ++ ⟨T.toArray⟩).data.toList).take (7 : Int).toNat = b :: l := by
      rw [hd]; exact List.take_left' (by simp; omega)
    rw [ht, hrd, Nat.mod_eq_of_lt (by omega)]
theorem Num.fix_no {n : Int} (h : n < 0 ∨ 72057594037927936 ≤ n) (hn : n ≤ 9223372036854775807) : Num.fixR n 7 = [] := by
  by_cases h0 : n < 0
  · exact Num.fixR_no (Or.inl h0)
  · obtain ⟨m, rfl⟩ := Int.eq_ofNat_of_zero_le (show 0 ≤ n by omega)
    refine Num.fixR_big ?_
    rw [Num.dn_pow]
    have : 2 ^ (8 * (7 : Int).toNat) = 72057594037927936 := by decide
    rw [this]
    omega

theorem Num.dec_len (u : Nat) : (Lib.decDigits u).length ≤ 9 ↔ u < 1000000000 := by
  rw [Lib.decDigits_length]
  constructor
  · intro h
    have h1 := Lib.lt_pow_nDigits u
    have h2 : 10 ^ Lib.nDigits u ≤ 10 ^ 9 := Nat.pow_le_pow_right (by omega) h
    omega
  · intro h
    by_cases h9 : Lib.nDigits u ≤ 9
    · exact h9
    · exfalso
      have key : ∀ (k u : Nat), k + 1 ≤ Lib.nDigits u → u ≥ 10 ^ k ∨ k = 0 := by
        intro k
        induction k with
        | zero => intro u _; exact Or.inr rfl
        | succ k ih =>
          intro u hu
          by_cases hs : u < 10
          · rw [Lib.nDigits_small hs] at hu; omega
          · rw [Lib.nDigits_big hs] at hu
            rcases ih (u / 10) (by omega) with h1 | h1
            · left; rw [Nat.pow_succ]; omega
            · left; subst h1; simp; omega
      rcases key 9 u (by omega) with h1 | h1
      · omega
      · omega
theorem Num.strip_len (n : Int) : (Lib.trimPrefix (Lib.itoa n) [45]).length ≤ 9 ↔ -1000000000 < n ∧ n < 1000000000 := by
  unfold Lib.itoa
  by_cases hn : n < 0
  · have ht : Lib.trimPrefix (45 :: Lib.decDigits n.natAbs) [45] = Lib.decDigits n.natAbs := by simp [Lib.trimPrefix, Lib.hasPrefix]
    rw [if_pos hn, ht, Num.dec_len]; omega
  · obtain ⟨b, l, hb, hd⟩ := Num.decDigits_head n.toNat
    have hb45 : b ≠ 45 := by intro h; subst h; exact absurd hd (by decide)
    have ht : Lib.trimPrefix (Lib.decDigits n.toNat) [45] = Lib.decDigits n.toNat := by
      rw [hb]; simp [Lib.trimPrefix, Lib.hasPrefix, Ne.symm hb45]
    rw [if_neg hn, ht, Num.dec_len]; omega
theorem Num.rdec_itoa {n : Int} (h0 : -1000000000 < n) (h1 : n < 1000000000) : Num.rdec (Lib.itoa n) = some n := Num.rdec_of rfl ((Num.strip_len n).2 ⟨h0, h1⟩)
theorem Num.rdec_itoa_no {n : Int} (h : n ≤ -1000000000 ∨ 1000000000 ≤ n) : Num.rdec (Lib.itoa n) = none := by
  cases hr : Num.rdec (Lib.itoa n) with
  | none => rfl
  | some v =>
    have := (Num.strip_len n).1 (Num.rdec_inv hr).1
    omega

theorem Num.unhex_hex : ∀ l, Num.unhex (Num.hexL l) = some l
  | [] => rfl
  | b :: l => by
    have hd : ∀ n : Fin 16, Num.fromHex (Num.hexd n.1) = n.1 := by decide
    have hbt := b.toNat_lt
    have h1 := hd ⟨b.toNat / 16, by omega⟩
    have h2 := hd ⟨b.toNat % 16, by omega⟩
    simp only at h1 h2
    simp only [Num.hexL, Num.unhex, h1, h2]
    rw [if_neg (by omega), Num.unhex_hex l]
    simp only [Option.map_some]
    congr 2
    rw [show (16 * ((b.toNat / 16 : Nat) : Int) + ((b.toNat % 16 : Nat) : Int)).toNat = b.toNat by omega]
    exact UInt8.ofNat_toNat

/-- what ReadVar says of whatever string: nothing, or a beginning that is the varint of its number -/
theorem Num.rv_any (s : ByteArray) : Num.rvK s ≤ s.size ∧ (Num.rvK s ≠ 0 → Num.varR (Num.rvN s) = (s.extract 0 (Num.rvK s)).toList) := by
  have hle := Num.vsize_le s.data.toList
  have hl : s.data.toList.length = s.size := by simp
  by_cases hg : Num.good s.data.toList (Num.vsize s.data.toList)
  · have hk : Num.rvK s = Num.vsize s.data.toList := by unfold Num.rvK; rw [if_pos hg]
    refine ⟨by omega, fun _ => ?_⟩
    have ht := Num.good_test (s := s) (k := Num.vsize s.data.toList) hle.1
    rw [decide_eq_true hg, beq_iff_eq] at ht
    unfold Num.rvN
    rw [hk]
    exact ht
  · have hk : Num.rvK s = 0 := by unfold Num.rvK; rw [if_neg hg]
    exact ⟨by omega, fun h => absurd hk h⟩

end Go.Proofs.YtbdhhmcebjpgeaaDoor
