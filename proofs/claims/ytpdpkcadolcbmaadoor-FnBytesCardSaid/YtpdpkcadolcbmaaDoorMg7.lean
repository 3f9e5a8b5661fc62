/- Texts of one claim laid into one file, in build order: NumbersP, BytesP, Big, Bytes. -/
import Derived.Test.YtpdpkcadolcbmaaDoorMg6
/- Plain mathematics of the law on numbers. -/
namespace Go.Proofs.YtpdpkcadolcbmaaDoor
open Go.RowKit
set_option linter.unusedVariables false

theorem Num.val7_var : ∀ (f q : Nat), q < 128 ^ (f + 1) → Num.val7 (Num.varF f q) = q
  | 0, q, h => by
    have hq : q < 128 := by simpa using h
    simp [Num.varF, Num.val7, UInt8.toNat_ofNat']
    omega
  | f + 1, q, h => by
    by_cases hq : q < 128
    · rw [Num.varF_small _ _ hq]
      simp [Num.val7, UInt8.toNat_ofNat']
      omega
    · rw [Num.varF_big _ _ (by omega)]
      have hb : (UInt8.ofNat (128 + q % 128)).toNat = 128 + q % 128 := by rw [UInt8.toNat_ofNat']; omega
      simp only [Num.val7, hb]
      rw [Num.val7_var f (q / 128) (by rw [Nat.pow_succ] at h; exact Nat.div_lt_of_lt_mul (by omega))]
      omega
theorem Num.varF_ne (f q : Nat) : Num.varF f q ≠ [] := by
  cases f
  · simp [Num.varF]
  · unfold Num.varF; split <;> simp
theorem Num.varF_len (f q : Nat) : (Num.varF f q).length ≤ f + 1 := by
  induction f generalizing q with
  | zero => simp [Num.varF]
  | succ f ih =>
    unfold Num.varF
    split
    · simp
    · simp only [List.length_cons]; have := ih (q / 128); omega

/-- Var of a number in range, and ReadVar of it with something behind -/
theorem Num.var_yes {n : Int} (h0 : 0 ≤ n) (h1 : n ≤ 562949953421311) (T : List UInt8) : ∃ b l, Num.varR n = b :: l ∧ l.length ≤ 6 ∧
    (Num.rvN (⟨(b :: l).toArray⟩ ++ ⟨T.toArray⟩) : Int) = n ∧ Num.rvK (⟨(b :: l).toArray⟩ ++ ⟨T.toArray⟩) = l.length + 1 := by
  obtain ⟨m, rfl⟩ := Int.eq_ofNat_of_zero_le h0
  have hv : Num.varR m = Num.varF 6 m := by unfold Num.varR; rw [if_pos ⟨h0, h1⟩, Int.toNat_natCast]
  have hlen := Num.varF_len 6 m
  cases hc : Num.varF 6 m with
  | nil => exact absurd hc (Num.varF_ne _ _)
  | cons b l =>
    rw [hc] at hlen
    simp only [List.length_cons] at hlen
    refine ⟨b, l, by rw [hv, hc], by omega, ?_⟩
    have hd : ((⟨(b :: l).toArray⟩ : ByteArray) ++ ⟨T.toArray⟩).data.toList = (b :: l) ++ T := by simp [ByteArray.data_append]
    have ht : (((⟨(b :: l).toArray⟩ : ByteArray) ++ ⟨T.toArray⟩).data.toList).take (l.length + 1) = b :: l := by
      rw [hd]; exact List.take_left' (by simp)
    have hval : Num.val7 (b :: l) = m := by rw [← hc]; exact Num.val7_var 6 m (by omega)
    have hg : Num.good ((⟨(b :: l).toArray⟩ : ByteArray) ++ ⟨T.toArray⟩).data.toList (l.length + 1) := by
      unfold Num.good
      rw [ht, hval, hc]
    obtain ⟨e1, e2⟩ := Num.rv_good (s := (⟨(b :: l).toArray⟩ : ByteArray) ++ ⟨T.toArray⟩) (k := l.length + 1) (by omega) (by simp only [ByteArray.size_append, ByteArray.size_mk', List.size_toArray, List.length_cons]; omega) hg
    exact ⟨by rw [e2, ht, hval], e1⟩
theorem Num.var_no {n : Int} (h : n < 0 ∨ 562949953421311 < n) : Num.varR n = [] := by unfold Num.varR; rw [if_neg (by omega)]

theorem Num.rd_cons (b : UInt8) (l : List UInt8) : Num.rd (b :: l) = b.toNat * 256 ^ l.length + Num.rd l := by
  have key : ∀ (l : List UInt8) (a : Nat), l.foldl (fun n b => n * 256 + b.toNat) a = a * 256 ^ l.length + Num.rd l := by
    intro l
    induction l with
    | nil => intro a; simp [Num.rd]
    | cons b l ih =>
      intro a
      have e : Num.rd (b :: l) = b.toNat * 256 ^ l.length + Num.rd l := by
        unfold Num.rd
        rw [List.foldl_cons, ih (0 * 256 + b.toNat)]
        simp [Num.rd]
      rw [List.foldl_cons, ih, e, List.length_cons, Nat.pow_succ, Nat.add_mul, Nat.mul_assoc, Nat.mul_comm 256, Nat.add_assoc]
  have h := key l (0 * 256 + b.toNat)
  unfold Num.rd
  rw [List.foldl_cons, h]
  simp [Num.rd]
theorem Num.rd_fix (m : Nat) : ∀ k, Num.rd (Num.fix m k) = m % 256 ^ k := by
  intro k
  induction k with
  | zero => simp [Num.fix, Num.rd, Nat.mod_one]
  | succ k ih =>
    have hm := Nat.mod_mul (x := m) (a := 256 ^ k) (b := 256)
    have hb : (UInt8.ofNat (Num.dn m k % 256)).toNat = m / 256 ^ k % 256 := by
      rw [UInt8.toNat_ofNat', Num.dn_pow, show (2 : Nat) ^ (8 * k) = 256 ^ k by rw [Nat.pow_mul]]
      exact Nat.mod_eq_of_lt (by omega)
    rw [Num.fix, Num.rd_cons, ih, Num.fix_length, hb, Nat.pow_succ, hm, Nat.mul_comm, Nat.add_comm]
theorem Num.fix_yes {n : Int} (h0 : 0 ≤ n) (h1 : n < 72057594037927936) (T : List UInt8) : ∃ b l, Num.fixR n 7 = b :: l ∧ l.length = 6 ∧
    Num.readB (⟨(b :: l).toArray⟩ ++ ⟨T.toArray⟩) 7 = true ∧ (Num.readN (⟨(b :: l).toArray⟩ ++ ⟨T.toArray⟩) 7 : Int) = n := by
  obtain ⟨m, rfl⟩ := Int.eq_ofNat_of_zero_le h0
  have hd0 : Num.dn m 7 = 0 := by
    rw [Num.dn_pow]
    exact Nat.div_eq_of_lt (by omega)
  have hf : Num.fixR m 7 = Num.fix m 7 := Num.fixR_yes (by omega) (by omega) hd0
  have hlen := Num.fix_length m 7
  have hrd := Num.rd_fix m 7
  cases hc : Num.fix m 7 with
  | nil => rw [hc] at hlen; cases hlen
  | cons b l =>
    rw [hc] at hlen hrd
    simp only [List.length_cons] at hlen
    have hs : ((⟨(b :: l).toArray⟩ : ByteArray) ++ ⟨T.toArray⟩).size = 7 + T.length := by simp only [ByteArray.size_append, ByteArray.size_mk', List.size_toArray, List.length_cons]; omega
    have hB : Num.readB (⟨(b :: l).toArray⟩ ++ ⟨T.toArray⟩) 7 = true := by
      unfold Num.readB; rw [hs]; simp; omega
    refine ⟨b, l, by rw [hf, hc], by omega, hB, ?_⟩
    unfold Num.readN
    rw [hB, if_pos rfl]
    have hd : ((⟨(b :: l).toArray⟩ : ByteArray) ++ ⟨T.toArray⟩).data.toList = (b :: l) ++ T := by simp [ByteArray.data_append]
    have ht : (((⟨(b :: l).toArray⟩ : ByteArray) ++ ⟨T.toArray⟩).data.toList).take (7 : Int).toNat = b :: l := by
      rw [hd]; exact List.take_left' (by simp; omega)
    rw [ht, hrd, Nat.mod_eq_of_lt (by omega)]
theorem Num.fix_no {n : Int} (h : n < 0 ∨ 72057594037927936 ≤ n) (hn : n ≤ 9223372036854775807) : Num.fixR n 7 = [] := by
  by_cases h0 : n < 0
  · exact Num.fixR_no (Or.inl h0)
  · obtain ⟨m, rfl⟩ := Int.eq_ofNat_of_zero_le (show 0 ≤ n by omega)
    refine Num.fixR_big ?_
    rw [Num.dn_pow]
    have : 2 ^ (8 * (7 : Int).toNat) = 72057594037927936 := by decide
    rw [this]
    omega

theorem Num.dec_len (u : Nat) : (Lib.decDigits u).length ≤ 9 ↔ u < 1000000000 := by
  rw [Lib.decDigits_length]
  constructor
  · intro h
    have h1 := Lib.lt_pow_nDigits u
    have h2 : 10 ^ Lib.nDigits u ≤ 10 ^ 9 := Nat.pow_le_pow_right (by omega) h
    omega
  · intro h
    by_cases h9 : Lib.nDigits u ≤ 9
    · exact h9
    · exfalso
      have key : ∀ (k u : Nat), k + 1 ≤ Lib.nDigits u → u ≥ 10 ^ k ∨ k = 0 := by
        intro k
        induction k with
        | zero => intro u _; exact Or.inr rfl
        | succ k ih =>
          intro u hu
          by_cases hs : u < 10
          · rw [Lib.nDigits_small hs] at hu; omega
          · rw [Lib.nDigits_big hs] at hu
            rcases ih (u / 10) (by omega) with h1 | h1
            · left; rw [Nat.pow_succ]; omega
            · left; subst h1; simp; omega
      rcases key 9 u (by omega) with h1 | h1
      · omega
      · omega
theorem Num.strip_len (n : Int) : (Lib.trimPrefix (Lib.itoa n) [45]).length ≤ 9 ↔ -1000000000 < n ∧ n < 1000000000 := by
  unfold Lib.itoa
  by_cases hn : n < 0
  · have ht : Lib.trimPrefix (45 :: Lib.decDigits n.natAbs) [45] = Lib.decDigits n.natAbs := by simp [Lib.trimPrefix, Lib.hasPrefix]
    rw [if_pos hn, ht, Num.dec_len]; omega
  · obtain ⟨b, l, hb, hd⟩ := Num.decDigits_head n.toNat
    have hb45 : b ≠ 45 := by intro h; subst h; exact absurd hd (by decide)
    have ht : Lib.trimPrefix (Lib.decDigits n.toNat) [45] = Lib.decDigits n.toNat := by
      rw [hb]; simp [Lib.trimPrefix, Lib.hasPrefix, Ne.symm hb45]
    rw [if_neg hn, ht, Num.dec_len]; omega
theorem Num.rdec_itoa {n : Int} (h0 : -1000000000 < n) (h1 : n < 1000000000) : Num.rdec (Lib.itoa n) = some n := Num.rdec_of rfl ((Num.strip_len n).2 ⟨h0, h1⟩)
theorem Num.rdec_itoa_no {n : Int} (h : n ≤ -1000000000 ∨ 1000000000 ≤ n) : Num.rdec (Lib.itoa n) = none := by
  cases hr : Num.rdec (Lib.itoa n) with
  | none => rfl
  | some v =>
    have := (Num.strip_len n).1 (Num.rdec_inv hr).1
    omega

theorem Num.unhex_hex : ∀ l, Num.unhex (Num.hexL l) = some l
  | [] => rfl
  | b :: l => by
    have hd : ∀ n : Fin 16, Num.fromHex (Num.hexd n.1) = n.1 := by decide
    have hbt := b.toNat_lt
    have h1 := hd ⟨b.toNat / 16, by omega⟩
    have h2 := hd ⟨b.toNat % 16, by omega⟩
    simp only at h1 h2
    simp only [Num.hexL, Num.unhex, h1, h2]
    rw [if_neg (by omega), Num.unhex_hex l]
    simp only [Option.map_some]
    congr 2
    rw [show (16 * ((b.toNat / 16 : Nat) : Int) + ((b.toNat % 16 : Nat) : Int)).toNat = b.toNat by omega]
    exact UInt8.ofNat_toNat

/-- what ReadVar says of whatever string: nothing, or a beginning that is the varint of its number -/
theorem Num.rv_any (s : ByteArray) : Num.rvK s ≤ s.size ∧ (Num.rvK s ≠ 0 → Num.varR (Num.rvN s) = (s.extract 0 (Num.rvK s)).toList) := by
  have hle := Num.vsize_le s.data.toList
  have hl : s.data.toList.length = s.size := by simp
  by_cases hg : Num.good s.data.toList (Num.vsize s.data.toList)
  · have hk : Num.rvK s = Num.vsize s.data.toList := by unfold Num.rvK; rw [if_pos hg]
    refine ⟨by omega, fun _ => ?_⟩
    have ht := Num.good_test (s := s) (k := Num.vsize s.data.toList) hle.1
    rw [decide_eq_true hg, beq_iff_eq] at ht
    unfold Num.rvN
    rw [hk]
    exact ht
  · have hk : Num.rvK s = 0 := by unfold Num.rvK; rw [if_neg hg]
    exact ⟨by omega, fun h => absurd hk h⟩

end Go.Proofs.YtpdpkcadolcbmaaDoor

/- Contracts (BytesP). -/
namespace Go.Proofs.YtpdpkcadolcbmaaDoor
open Go.RowKit
set_option linter.unusedVariables false

/-! Bytes of numbers, read back. -/
theorem Num.varB_read {n : Int} (h0 : 0 ≤ n) (h1 : n ≤ 562949953421311) (T : ByteArray) : Num.rvK (Num.varB n ++ T) = (Num.varB n).size ∧ ¬ Num.rvK (Num.varB n ++ T) = 0 ∧ (Num.rvN (Num.varB n ++ T) : Int) = n := by
  obtain ⟨b, l, hv, _, hN, hK⟩ := Num.var_yes h0 h1 T.data.toList
  have e : (Num.varB n ++ T) = (⟨(b :: l).toArray⟩ : ByteArray) ++ ⟨T.data.toList.toArray⟩ := by unfold Num.varB; rw [hv, Array.toArray_toList]
  have hs : (Num.varB n).size = l.length + 1 := by unfold Num.varB; rw [hv]; simp [ByteArray.size]
  rw [e, hK, hs]
  exact ⟨rfl, by omega, hN⟩
theorem Num.rest_append (a T : ByteArray) : Num.rest (a ++ T) a.size = T := by
  unfold Num.rest
  rw [ByteArray.size_append]
  exact ByteArray.extract_append_eq_right rfl rfl
theorem Num.rest_varB {n : Int} (h0 : 0 ≤ n) (h1 : n ≤ 562949953421311) (T : ByteArray) : Num.rest (Num.varB n ++ T) (Num.rvK (Num.varB n ++ T)) = T := by
  rw [(Num.varB_read h0 h1 T).1, Num.rest_append]
theorem Num.split (s : ByteArray) (h : ¬ Num.rvK s = 0) : s = Num.varB (Num.rvN s) ++ Num.rest s (Num.rvK s) := by
  obtain ⟨hle, hv⟩ := Num.rv_any s
  have e : Num.varB (Num.rvN s) = s.extract 0 (Num.rvK s) := by
    unfold Num.varB
    rw [hv h, ByteArray.toList_eq, Array.toArray_toList]
  rw [e]
  unfold Num.rest
  rw [ByteArray.extract_append_extract, Nat.min_eq_left (Nat.zero_le _), Nat.max_eq_right hle]
  exact ByteArray.extract_zero_size.symm

/-! Costs. -/
theorem Zs.getTo_put (zs : List Int) (h : ∀ z ∈ zs, 0 ≤ z ∧ z ≤ 562949953421311) (T : ByteArray) : Zs.getTo zs.length (Zs.put zs ++ T) = (zs, T) := by
  induction zs with
  | nil =>
    show (([] : List Int), Zs.put [] ++ T) = ([], T)
    rw [show Zs.put [] = ByteArray.empty from rfl, ByteArray.empty_append]
  | cons z zs ih =>
    obtain ⟨h0, h1⟩ := h z (by simp)
    have ih := ih (fun y hy => h y (by simp [hy]))
    rw [Zs.put_cons, ByteArray.append_assoc]
    have hr := Num.varB_read h0 h1 (Zs.put zs ++ T)
    rw [List.length_cons, Zs.getTo_yes hr.2.1, Num.rest_varB h0 h1, ih, hr.2.2]
theorem Zs.getTo_split (n : Nat) (t : ByteArray) : t = Zs.put (Zs.getTo n t).1 ++ (Zs.getTo n t).2 := by
  induction n generalizing t with
  | zero => show t = Zs.put [] ++ t; rw [show Zs.put [] = ByteArray.empty from rfl, ByteArray.empty_append]
  | succ n ih =>
    by_cases h : Num.rvK t = 0
    · rw [Zs.getTo_no h]; show t = Zs.put [] ++ t; rw [show Zs.put [] = ByteArray.empty from rfl, ByteArray.empty_append]
    · rw [Zs.getTo_yes h]
      simp only
      rw [Zs.put_cons, ByteArray.append_assoc, ← ih]
      exact Num.split t h
theorem Zs.fit_all_bd {zs : List Int} {n : Nat} (h : Zs.fit zs n = true) : ∀ z ∈ zs, 0 ≤ z ∧ z ≤ 562949953421311 := by
  intro z hz
  simp only [Zs.fit, Bool.and_eq_true, List.all_eq_true, decide_eq_true_eq] at h
  have := h.1 z hz
  omega
theorem Co.read_put {k : Co} (h : Co.ok k = true) : Co.read (Co.put k) = (k, ByteArray.empty) := by
  obtain ⟨hd, hi, hr, _⟩ := Co.ok_iff.1 h
  obtain ⟨l0, l1, l2⟩ := Co.ok_len h
  rw [Co.put_yes h, ByteArray.append_assoc]
  have e0 := Zs.getTo_put k.d (Zs.fit_all_bd hd) (Zs.put k.i ++ Zs.put k.r)
  have e1 := Zs.getTo_put k.i (Zs.fit_all_bd hi) (Zs.put k.r)
  have e2 := Zs.getTo_put k.r (Zs.fit_all_bd hr) ByteArray.empty
  rw [l0] at e0
  rw [l1] at e1
  rw [l2, ByteArray.append_empty] at e2
  unfold Co.read
  rw [e0]
  simp only
  rw [e1]
  simp only
  rw [e2]
theorem Co.get_put {k : Co} (h : Co.ok k = true) : Co.get (Co.put k) = (k, true) := by
  have hr := Co.read_put h
  rw [Co.get_yes (by rw [hr]; rfl) (by rw [hr]; exact h), hr]
theorem Co.get_none : Co.get ⟨#[]⟩ = (Co.none, false) := by
  refine Co.get_few ?_
  rw [Zs.getTo_no (by decide)]
  decide
theorem Co.get_ok {s : ByteArray} (h : (Co.get s).2 = true) : Co.put (Co.get s).1 = s := by
  unfold Co.get at h ⊢
  split at h
  · rename_i hc
    rw [if_pos hc]
    obtain ⟨h0, h1⟩ := hc
    simp only
    rw [Co.put_yes h1]
    unfold Co.read at h0 ⊢
    have e0 := Zs.getTo_split 6 s
    have e1 := Zs.getTo_split 6 (Zs.getTo 6 s).2
    have e2 := Zs.getTo_split 36 (Zs.getTo 6 (Zs.getTo 6 s).2).2
    simp only at h0 ⊢
    have hz : (Zs.getTo 36 (Zs.getTo 6 (Zs.getTo 6 s).2).2).2 = ByteArray.empty := ByteArray.size_eq_zero_iff.1 h0
    rw [hz, ByteArray.append_empty] at e2
    rw [← e2, ByteArray.append_assoc, ← e1, ← e0]
  · cases h

/-! Trees. -/
/-- the bytes of the nodes of a list -/
def Tr.nodes : Tr → ByteArray
  | [] => ByteArray.empty
  | p :: xs => Num.varB p.1 ++ Num.varB p.2 ++ Tr.nodes xs
theorem Tr.nodes_append (a b : Tr) : Tr.nodes (a ++ b) = Tr.nodes a ++ Tr.nodes b := by
  induction a with
  | nil => show Tr.nodes b = ByteArray.empty ++ Tr.nodes b; rw [ByteArray.empty_append]
  | cons p a ih => simp only [List.cons_append, Tr.nodes]; rw [ih]; simp only [ByteArray.append_assoc]
theorem Tr.at_pair {xs : Tr} {k : Nat} (h : k < xs.length) : (Tr.l xs k, Tr.d xs k) = xs[k] := by simp [Tr.l, Tr.d, List.getD_eq_getElem?_getD, h]
theorem Tr.take_one {xs : Tr} {k : Nat} (h : k < xs.length) : xs.take (k + 1) = xs.take k ++ [(Tr.l xs k, Tr.d xs k)] := by
  rw [List.take_add_one, List.getElem?_eq_getElem h, Tr.at_pair h]
  rfl
theorem Tr.putTo_nodes (xs : Tr) (k : Nat) (h : k ≤ xs.length) : Tr.putTo xs k = Num.varB xs.length ++ Tr.nodes (xs.take k) := by
  induction k with
  | zero => simp only [Tr.putTo, List.take_zero, Tr.nodes]; rw [ByteArray.append_empty]
  | succ k ih =>
    have hk : k < xs.length := by omega
    have et := Tr.take_one (xs := xs) (k := k) (by omega)
    rw [Tr.putTo, ih (by omega), et, Tr.nodes_append]
    simp only [Tr.nodes, ByteArray.append_empty, ByteArray.append_assoc]
theorem Tr.put_nodes {xs : Tr} (h : Tr.ok xs = true) : Tr.put xs = Num.varB xs.length ++ Tr.nodes xs := by
  unfold Tr.put
  rw [if_pos h, Tr.putTo_nodes xs _ (Nat.le_refl _), List.take_length]
theorem Tr.l_left (a b : Tr) {k : Nat} (h : k < a.length) : Tr.l (a ++ b) k = Tr.l a k := by simp [Tr.l, List.getD_eq_getElem?_getD, List.getElem?_append, h]
theorem Tr.d_left (a b : Tr) {k : Nat} (h : k < a.length) : Tr.d (a ++ b) k = Tr.d a k := by simp [Tr.d, List.getD_eq_getElem?_getD, List.getElem?_append, h]
theorem Tr.okAt_left (a b : Tr) {k : Nat} (h : k < a.length) : Tr.okAt (a ++ b) k = Tr.okAt a k := by
  unfold Tr.okAt
  rw [Tr.l_left a b h, Tr.d_left a b h]
  by_cases hk : k = 0
  · simp [hk]
  · rw [Tr.d_left a b (show k - 1 < a.length by omega)]
/-- reading the nodes of a valid tree back -/
theorem Tr.getB_nodes (xs : Tr) (hok : Tr.okTo xs xs.length) : ∀ (r k : Nat), k + r = xs.length → Tr.getB r (Tr.nodes (xs.drop k)) (xs.take k) = (xs, 0) := by
  intro r
  induction r with
  | zero =>
    intro k hk
    obtain rfl : k = xs.length := by omega
    rw [List.drop_length, List.take_length]
    exact Tr.getB_end rfl
  | succ r ih =>
    intro k hk
    have hlt : k < xs.length := by omega
    obtain ⟨⟨l0, l1⟩, ⟨d0, d1⟩, hz, hs⟩ := Tr.okTo_at hok hlt
    have ed : xs.drop k = (Tr.l xs k, Tr.d xs k) :: xs.drop (k + 1) := by
      rw [List.drop_eq_getElem_cons hlt, Tr.at_pair hlt]
    have et := Tr.take_one (xs := xs) (k := k) (by omega)
    rw [ed]
    simp only [Tr.nodes]
    rw [ByteArray.append_assoc]
    obtain ⟨T, hT⟩ : ∃ T, T = Num.varB (Tr.d xs k) ++ Tr.nodes (xs.drop (k + 1)) := ⟨_, rfl⟩
    rw [← hT]
    have r1 := Num.varB_read (n := Tr.l xs k) l0 (by omega) T
    have r2 := Num.rest_varB (n := Tr.l xs k) l0 (by omega) T
    have r3 := Num.varB_read (n := Tr.d xs k) d0 (by omega) (Tr.nodes (xs.drop (k + 1)))
    have r4 := Num.rest_varB (n := Tr.d xs k) d0 (by omega) (Tr.nodes (xs.drop (k + 1)))
    have hfit : Tr.fits (xs.take k) (xs.take k).length (Tr.d xs k) = true := by
      have hl : (xs.take k).length = k := by rw [List.length_take]; omega
      rw [hl]
      unfold Tr.fits
      by_cases hk0 : k = 0
      · rw [if_pos hk0]; simpa using hz.2 hk0
      · rw [if_neg hk0]
        have : Tr.d (xs.take k) (k - 1) = Tr.d xs (k - 1) := by
          have := Tr.d_left (xs.take k) (xs.drop k) (k := k - 1) (by rw [hl]; omega)
          rw [List.take_append_drop] at this
          exact this.symm
        rw [this]
        simp only [decide_eq_true_eq]
        have h1 : Tr.d xs k ≠ 0 := fun e => hk0 (hz.1 e)
        omega
    have hnode : Tr.node (Num.varB (Tr.l xs k) ++ T) (xs.take k) = ((Tr.l xs k, Tr.d xs k), Num.rvK (Num.varB (Tr.l xs k) ++ T) + Num.rvK T, 0) := by
      have hy := Tr.node_y (t := Num.varB (Tr.l xs k) ++ T) (xs := xs.take k) r1.2.1 (by rw [r1.2.2]; simp [Lab.ok]; omega) (by rw [r2, hT]; exact r3.2.1) (by rw [r2, hT]; have := r3.2.2; omega) (by rw [r2, hT, r3.2.2]; exact hfit)
      rw [hy, r1.2.2, r2]
      rw [hT, r3.2.2]
    rw [Tr.getB_yes hnode, ← Num.rest_rest, r2, ← et]
    rw [hT, r4]
    exact ih (k + 1) (by omega)
theorem Tr.get_put {xs : Tr} (h : Tr.ok xs = true) : Tr.get (Tr.put xs) = (xs, 0) := by
  obtain ⟨hok, h1, h2⟩ := Tr.ok_iff.1 h
  rw [Tr.put_nodes h]
  have r1 := Num.varB_read (n := (xs.length : Int)) (by omega) (by omega) (Tr.nodes xs)
  have r2 := Num.rest_varB (n := (xs.length : Int)) (by omega) (by omega) (Tr.nodes xs)
  have hN : Num.rvN (Num.varB (xs.length : Int) ++ Tr.nodes xs) = xs.length := by have := r1.2.2; omega
  rw [Tr.get_y r1.2.1 (by rw [hN]; omega), r2, hN]
  exact Tr.getB_nodes xs hok xs.length 0 (by omega)
theorem Tr.get_none : Tr.get ⟨#[]⟩ = ([], 1) := Tr.get_n1 (by decide)
/-- what is read stands there -/
theorem Tr.getB_ok (r : Nat) : ∀ (t : ByteArray) (xs ys : Tr), Tr.okTo xs xs.length → Tr.getB r t xs = (ys, 0) → ys.length = xs.length + r ∧ Tr.okTo ys ys.length ∧ Tr.nodes ys = Tr.nodes xs ++ t := by
  induction r with
  | zero =>
    intro t xs ys hok h
    by_cases ht : t.size = 0
    · rw [Tr.getB_end ht] at h
      obtain rfl : xs = ys := by injection h
      refine ⟨rfl, hok, ?_⟩
      rw [ByteArray.size_eq_zero_iff.1 ht, ByteArray.append_empty]
    · rw [Tr.getB_left ht] at h
      injection h with _ h
      exact absurd h (by decide)
  | succ r ih =>
    intro t xs ys hok h
    by_cases h1 : Num.rvK t = 0
    · rw [Tr.getB_no (Tr.node_n1 h1) (by decide)] at h
      injection h with _ h; exact absurd h (by decide)
    · rcases h2 : Lab.ok (Num.rvN t) with _ | _
      · rw [Tr.getB_no (Tr.node_n2 h1 h2) (by decide)] at h
        injection h with _ h; exact absurd h (by decide)
      · by_cases h3 : Num.rvK (Num.rest t (Num.rvK t)) = 0
        · rw [Tr.getB_no (Tr.node_n3 h1 h2 h3) (by decide)] at h
          injection h with _ h; exact absurd h (by decide)
        · by_cases h4 : 12 < Num.rvN (Num.rest t (Num.rvK t))
          · rw [Tr.getB_no (Tr.node_n4 h1 h2 h3 h4) (by decide)] at h
            injection h with _ h; exact absurd h (by decide)
          · rcases h5 : Tr.fits xs xs.length (Num.rvN (Num.rest t (Num.rvK t))) with _ | _
            · rw [Tr.getB_no (Tr.node_n5 h1 h2 h3 h4 h5) (by decide)] at h
              injection h with _ h; exact absurd h (by decide)
            · rw [Tr.getB_yes (Tr.node_y h1 h2 h3 h4 h5)] at h
              obtain ⟨p, hp⟩ : ∃ p : Int × Int, p = ((Num.rvN t : Int), (Num.rvN (Num.rest t (Num.rvK t)) : Int)) := ⟨_, rfl⟩
              rw [← hp] at h
              have hl : (xs ++ [p]).length = xs.length + 1 := by simp
              have hlast : Tr.l (xs ++ [p]) xs.length = p.1 ∧ Tr.d (xs ++ [p]) xs.length = p.2 := by
                constructor <;> simp [Tr.l, Tr.d, List.getD_eq_getElem?_getD]
              have hok' : Tr.okTo (xs ++ [p]) (xs ++ [p]).length := by
                rw [hl]
                refine Tr.okTo_succ (fun j hj => by rw [Tr.okAt_left xs [p] hj]; exact hok j hj) ?_
                have hb : 0 ≤ p.1 ∧ p.1 ≤ 5 := by rw [hp]; simpa [Lab.ok] using h2
                rw [Tr.okAt_fits (by rw [hlast.1]; exact hb) (fun h0 => by
                  rw [Tr.d_left xs [p] (show xs.length - 1 < xs.length by omega)]
                  exact (Tr.okTo_at hok (show xs.length - 1 < xs.length by omega)).2.1.1)]
                rw [hlast.2, Bool.and_eq_true]
                refine ⟨by rw [hp]; simp; omega, ?_⟩
                have h5' : Tr.fits xs xs.length p.2 = true := by rw [hp]; exact h5
                unfold Tr.fits at h5' ⊢
                by_cases h0 : xs.length = 0
                · rw [if_pos h0] at h5' ⊢; exact h5'
                · rw [if_neg h0] at h5' ⊢
                  rw [Tr.d_left xs [p] (show xs.length - 1 < xs.length by omega)]
                  exact h5'
              obtain ⟨i1, i2, i3⟩ := ih _ _ _ hok' h
              refine ⟨by rw [i1, hl]; omega, i2, ?_⟩
              rw [i3, Tr.nodes_append, ByteArray.append_assoc]
              congr 1
              simp only [Tr.nodes]
              rw [ByteArray.append_empty, ByteArray.append_assoc, hp, ← Num.rest_rest, ← Num.split _ h3, ← Num.split t h1]
theorem Tr.get_ok {s : ByteArray} (h : (Tr.get s).2 = 0) : Tr.put (Tr.get s).1 = s := by
  by_cases h1 : Num.rvK s = 0
  · rw [Tr.get_n1 h1] at h; exact absurd h (by decide)
  · by_cases h2 : 1 ≤ Num.rvN s ∧ Num.rvN s ≤ 24
    · rw [Tr.get_y h1 h2] at h ⊢
      obtain ⟨ys, hy⟩ : ∃ ys, ys = (Tr.getB (Num.rvN s) (Num.rest s (Num.rvK s)) []).1 := ⟨_, rfl⟩
      have he : Tr.getB (Num.rvN s) (Num.rest s (Num.rvK s)) [] = (ys, 0) := by rw [hy, ← h]
      obtain ⟨i1, i2, i3⟩ := Tr.getB_ok _ _ [] _ (fun j hj => absurd hj (Nat.not_lt_zero j)) he
      have hl : ys.length = Num.rvN s := by rw [i1]; simp
      rw [← hy, Tr.put_nodes (Tr.ok_iff.2 ⟨i2, by omega⟩), i3, hl]
      show Num.varB (Num.rvN s : Int) ++ (ByteArray.empty ++ Num.rest s (Num.rvK s)) = s
      rw [ByteArray.empty_append]
      exact (Num.split s h1).symm
    · rw [Tr.get_n2 h1 h2] at h; exact absurd h (by decide)
/-- a code that is no success comes with no tree; and which codes there are -/
theorem Tr.getB_code (r : Nat) : ∀ (t : ByteArray) (xs : Tr), (0 ≤ (Tr.getB r t xs).2 ∧ (Tr.getB r t xs).2 ≤ 6) ∧ ((Tr.getB r t xs).2 ≠ 0 → (Tr.getB r t xs).1 = []) := by
  induction r with
  | zero =>
    intro t xs
    by_cases ht : t.size = 0
    · rw [Tr.getB_end ht]; exact ⟨⟨Int.le_refl (0 : Int), (by decide : (0 : Int) ≤ 6)⟩, fun h => absurd rfl h⟩
    · rw [Tr.getB_left ht]; exact ⟨by decide, fun _ => rfl⟩
  | succ r ih =>
    intro t xs
    rcases Tr.node_cases t xs with ⟨code, hc, h1, h5⟩ | ⟨l, d, u, hc, _⟩
    · rw [Tr.getB_no hc h1]; exact ⟨by omega, fun _ => rfl⟩
    · rw [Tr.getB_yes hc]; exact ih _ _
theorem Tr.get_code (s : ByteArray) : (0 ≤ (Tr.get s).2 ∧ (Tr.get s).2 ≤ 6) ∧ ((Tr.get s).2 ≠ 0 → (Tr.get s).1 = []) := by
  by_cases h1 : Num.rvK s = 0
  · rw [Tr.get_n1 h1]; exact ⟨by decide, fun _ => rfl⟩
  · by_cases h2 : 1 ≤ Num.rvN s ∧ Num.rvN s ≤ 24
    · rw [Tr.get_y h1 h2]; exact Tr.getB_code _ _ _
    · rw [Tr.get_n2 h1 h2]; exact ⟨by decide, fun _ => rfl⟩
theorem Tr.put_empty {xs : Tr} (h : Tr.ok xs = true) : Tr.put xs ≠ ⟨#[]⟩ := by
  intro e
  have h1 := Tr.get_put h
  rw [e, Tr.get_none] at h1
  injection h1 with _ h1
  exact absurd h1 (by decide)

end Go.Proofs.YtpdpkcadolcbmaaDoor

/- Laws over a code: codes that are too long; the code as bytes. -/
namespace Go.Proofs.YtpdpkcadolcbmaaDoor
open Go.RowKit
set_option linter.unusedVariables false

set_option maxHeartbeats 400000 in
theorem big_small (a : Option Addr) (n cap : Nat) (h : (n : Int) ≤ 1048576) (w : World) :
    Calls Tryd.prog 4 #[.slice a n cap] w fun e w' => e = .returned (.bool false) ∧ w = w' := by
  go_enter Tryd.func4, Tryd.ntmps4
  go_wp2
  go_ret
  exact ⟨Kit.ret_bool (by simp; try omega), rfl⟩
set_option maxHeartbeats 400000 in
theorem big_big (a : Option Addr) (n cap : Nat) (h : (1048576 : Int) < n) (w : World) :
    Calls Tryd.prog 4 #[.slice a n cap] w fun e w' => e = .returned (.bool true) ∧ w = w' := by
  go_enter Tryd.func4, Tryd.ntmps4
  go_wp2
  go_ret
  exact ⟨Kit.ret_bool (by simp; try omega), rfl⟩

theorem code_of {w : World} {a : Option Addr} {n cap : Nat} {zs : List Int} (h : Kit.BytesIn w a n cap zs) : (zs.take n).length = n ∧ CodeIn w w.heap.size a (zs.take n) := by
  rcases h with ⟨rfl, rfl, rfl, rfl⟩ | ⟨x, rfl, hl, hm, hz, hcell, hwz⟩
  · exact ⟨rfl, fun j hj => by simp at hj⟩
  · have hlen : (zs.take n).length = n := by simp; omega
    refine ⟨hlen, fun j hj => ?_⟩
    have hj' : j < n := by omega
    have hc := hcell j (by omega)
    obtain ⟨b, off, spot⟩ := x
    have hspot : spot = none := by
      have := World.cell?_spot (hcell 0 (by omega))
      simpa [Addr.add] using this
    subst hspot
    have e : ((⟨b, off, none⟩ : Addr).add j) = ⟨b, off + j, none⟩ := by unfold Addr.add; split <;> simp_all
    rw [e] at hc
    have hg : (zs.take n).getD j 0 = zs.getD j 0 := by simp [List.getD, hj']
    refine ⟨b, off, rfl, ?_, by rw [hg]; exact hc, ?_⟩
    · rcases Nat.lt_or_ge b w.heap.size with h' | h'
      · exact h'
      · simp [World.cell?, Array.getElem?_eq_none h'] at hc
    · rw [hg]
      have hm : zs.getD j 0 ∈ zs := by
        rw [List.getD_eq_getElem?_getD, List.getElem?_eq_getElem (by omega)]
        exact List.getElem_mem _
      have := hwz _ hm
      simp only [List.getD_eq_getElem?_getD] at this ⊢
      simp [Lit.wf, IntKind.min, IntKind.max, IntKind.signed, IntKind.bits] at this
      omega


end Go.Proofs.YtpdpkcadolcbmaaDoor

/- Contracts (Bytes). -/
namespace Go.Proofs.YtpdpkcadolcbmaaDoor
open Go.RowKit
set_option linter.unusedVariables false

/-- a tree of the call's own and a code -/
def GotT (ys : Tr) (d : Int) (w : World) (e : Ending) (w' : World) : Prop :=
  ∃ A c, e = .returned (.tuple #[.slice A ys.length c, .int .i64 d]) ∧ w'.ownsRow w.heap.size 46 2 (.slice A ys.length c) ys.length (Tr.cells ys) ∧ Below w.heap.size w w'
theorem implGot {s : ByteArray} {ys : Tr} {d : Int} (hs : s.size ≤ maxLen) (h : Tr.get s = (ys, d)) (w : World) : Calls Tryd.prog 7 #[.string s] w (GotT ys d w) := by
  have := implGetTree_any s hs w
  rw [h] at this
  exact this
theorem specGot {s : ByteArray} {ys : Tr} {d : Int} (hs : s.size ≤ maxLen) (h : Tr.get s = (ys, d)) (w : World) : Calls Tryd.prog 11 #[.string s] w (GotT ys d w) := by
  have := specGetTree_any s hs w
  rw [h] at this
  exact this
/-- a cost of the call's own and a Bool -/
def GotC (K : Co) (b : Bool) (w : World) (e : Ending) (w' : World) : Prop :=
  ∃ A0 A1 A2 c0 c1 c2, e = .returned (.tuple #[.agg #[.slice A0 K.d.length c0, .slice A1 K.i.length c1, .slice A2 K.r.length c2], .bool b]) ∧ CoIn w' w'.heap.size A0 A1 A2 K.d.length K.i.length K.r.length K ∧ Below w.heap.size w w'
theorem implGotC {s : ByteArray} {K : Co} {b : Bool} (hs : s.size ≤ maxLen) (h : Co.get s = (K, b)) (w : World) : Calls Tryd.prog 14 #[.string s] w (GotC K b w) := by
  have := implGetCost_any s hs w
  rw [h] at this
  exact this.mono fun e w' ⟨A0, A1, A2, c0, c1, c2, h, ho, hb⟩ => ⟨A0, A1, A2, c0, c1, c2, h, ho.to_in, hb⟩
theorem specGotC {s : ByteArray} {K : Co} {b : Bool} (hs : s.size ≤ maxLen) (h : Co.get s = (K, b)) (w : World) : Calls Tryd.prog 17 #[.string s] w (GotC K b w) := by
  have := specGetCost_any s hs w
  rw [h] at this
  exact this.mono fun e w' ⟨A0, A1, A2, c0, c1, c2, h, ho, hb⟩ => ⟨A0, A1, A2, c0, c1, c2, h, ho.to_in, hb⟩
theorem Tr.put_size (xs : Tr) (h : xs.length ≤ 100) : (Tr.put xs).size ≤ 2000 := by
  unfold Tr.put
  split
  · have := Tr.putTo_size xs xs.length; omega
  · exact Nat.zero_le _
theorem Kit.not_nil {s : ByteArray} (h : s ≠ ⟨#[]⟩) : ¬ s.toList = [] := by
  intro e
  apply h
  have hd : s.data = #[] := by
    rw [ByteArray.toList_eq] at e
    exact Array.toList_eq_nil_iff.1 e
  rw [← hd]
theorem TrCode.some {d : Int} (h : 0 ≤ d ∧ d ≤ 6) : ¬ (TrCode.name d).toList = [] := by
  refine Kit.not_nil ?_
  have h7 : d = 0 ∨ d = 1 ∨ d = 2 ∨ d = 3 ∨ d = 4 ∨ d = 5 ∨ d = 6 := by omega
  rcases h7 with rfl | rfl | rfl | rfl | rfl | rfl | rfl <;> decide
theorem Co.same_refl (k : Co) : Co.same k k = true := by simp [Co.same]
set_option maxHeartbeats 16000000 in
set_option maxRecDepth 100000 in
theorem bytes_any (k : Code) (w : World) (hcode : CodeIn w w.heap.size k.a k.cs) (hlen : k.cs.length ≤ 1048576) (ht : HasCodes w) :
    Calls Tryd.prog 3 #[.slice k.a k.cs.length k.cap] w fun e w' => e = .returned (.bool true) ∧ Below w.heap.size w w' := by
  have HC := Lib.hid hcode
  have HTC := Lib.hid ht
  clear hcode ht
  have HW := Lib.hid (Below.refl w.heap.size w)
  go_enter Tryd.func3, Tryd.ntmps3
  go_wp2_with fail
  refine (big_small _ _ _ (by omega) _).mono ?_
  rintro e w0 ⟨rfl, rfl⟩
  go_wp2_with fail
  refine (drawPutTree_ex _ k HC.out hlen).mono ?_
  rintro e w1 ⟨xs, A, n, cp, rfl, hn, hcp, hn31, hb⟩
  have HW := Lib.hid (HW.out.trans (hb.mono HW.out.size))
  have Nx := Lib.hid hn
  have HLX := Lib.hid hn.1
  have hn20 : n ≤ 1048576 := by omega
  clear hb hn
  obtain ⟨S, eS⟩ : ∃ S, S = Tr.put xs := ⟨_, rfl⟩
  have HS := Lib.hid (show S.size ≤ maxLen by rw [eS]; exact Nat.le_trans (Tr.put_size xs (by have := HLX.out; omega)) (by decide))
  have HES := Lib.hid eS
  clear eS
  go_wp2_with fail
  refine (implPutTree_any _ _ _ xs _ Nx.out hn20 hcp).mono ?_
  rintro e w2 ⟨rfl, hb⟩
  have Nx := Lib.hid (Nx.out.to_below hb)
  have HW := Lib.hid (HW.out.trans (hb.mono HW.out.size))
  clear hb
  rw [← HES.out]
  cases hok : Tr.ok xs with
  | false =>
    obtain rfl : S = ⟨#[]⟩ := by rw [HES.out]; unfold Tr.put; rw [hok]; rfl
    have HG1 := Lib.hid Tr.get_none
    have HOX := Lib.hid hok
    clear hok
    go_wp2_with fail
    refine (implGot HS.out HG1.out _).mono ?_
    rintro e w3 ⟨A2, c2, rfl, ho, hb⟩
    have Nx := Lib.hid (Nx.out.to_below hb)
    have HW := Lib.hid (HW.out.trans (hb.mono HW.out.size))
    clear hb
    clear ho
    go_wp2_with fail
    refine (specTreeOk_any _ _ _ xs _ Nx.out hn20).mono ?_
    rintro e w4 ⟨rfl, hd⟩
    have hb : Below (World.heap w3).size w3 w4 := hd.toBelow
    clear hd
    have Nx := Lib.hid (Nx.out.to_below hb)
    have HW := Lib.hid (HW.out.trans (hb.mono HW.out.size))
    clear hb
    rw [HOX.out]
    go_wp2_with fail
    refine (specTreeOk_any _ _ _ xs _ Nx.out hn20).mono ?_
    rintro e w5 ⟨rfl, hd⟩
    have hb : Below (World.heap w4).size w4 w5 := hd.toBelow
    clear hd
    have Nx := Lib.hid (Nx.out.to_below hb)
    have HW := Lib.hid (HW.out.trans (hb.mono HW.out.size))
    clear hb
    rw [HOX.out]
    go_wp2_with fail
    refine (drawGetTree_ex _ k (CodeIn.onto HC.out HW.out HW.out.size) hlen).mono ?_
    rintro e w6 ⟨T, rfl, hT, hb⟩
    have HW := Lib.hid (HW.out.trans (hb.mono HW.out.size))
    clear hb
    have HT2 := Lib.hid (show T.size ≤ maxLen from Nat.le_trans hT (by decide))
    clear hT
    rcases hg : Tr.get T with ⟨ys, d⟩
    have hgc := Tr.get_code T
    have hgl := Tr.get_len T
    have hgo := Tr.get_ok (s := T)
    rw [hg] at hgc hgl hgo
    simp only at hgc hgl hgo
    have HG := Lib.hid hg
    have HC0 := Lib.hid (TrCode.some hgc.1)
    clear hg
    by_cases d0 : d = 0
    · have HD0 := True.intro
      subst d0
      have HP := Lib.hid (hgo rfl)
      clear HD0 hgo hgc
      obtain ⟨C, eC⟩ : ∃ C, C = TrCode.name 0 := ⟨_, rfl⟩
      have hC : C.toList.isEmpty = false := by rw [eC, List.isEmpty_eq_false_iff]; exact HC0.out
      have HEC := Lib.hid eC
      clear eC
      go_wp2_with fail
      refine (implGot HT2.out HG.out _).mono ?_
      rintro e w7 ⟨A3, c3, rfl, ho, hb⟩
      have HW := Lib.hid (HW.out.trans (hb.mono HW.out.size))
      clear hb
      have Ny := Lib.hid (NdIn.of_own ho)
      have hcy := own_cap ho
      clear ho
      go_wp2_with fail
      refine (specGot HT2.out HG.out _).mono ?_
      rintro e w8 ⟨A4, c4, rfl, ho, hb⟩
      have Ny := Lib.hid (Ny.out.to_below hb)
      have HW := Lib.hid (HW.out.trans (hb.mono HW.out.size))
      clear hb
      clear ho
      go_wp2_with fail
      refine (implPutTree_any _ _ _ ys _ Ny.out (by omega) hcy).mono ?_
      rintro e w9 ⟨rfl, hb⟩
      have Ny := Lib.hid (Ny.out.to_below hb)
      have HW := Lib.hid (HW.out.trans (hb.mono HW.out.size))
      clear hb
      rw [HP.out]
      go_wp2_with fail
      have htw := HTC.out.below HW.out
      refine (implTreeCode_any 0 _ htw).mono ?_
      rintro e w' ⟨rfl, rfl⟩
      clear htw
      rw [← HEC.out]
      go_wp2_with fail
      refine (drawPutCost_ex _ k (CodeIn.onto HC.out HW.out HW.out.size) hlen).mono ?_
      rintro e w10 ⟨h0, h1, h2, c0, c2, A1, n1, q1, K, rfl, hn1, hin, hb⟩
      have HW := Lib.hid (HW.out.trans (hb.mono HW.out.size))
      clear hb
      have HN1 := Lib.hid (show n1 ≤ 1048576 by omega)
      have Ik := Lib.hid hin
      clear hin hn1
      obtain ⟨sk, es⟩ : ∃ s, s = w10.heap.size := ⟨_, rfl⟩
      obtain ⟨w11, hwc⟩ : ∃ wc, wc = w10.alloc (.cells #[.slice (some ⟨h0, 0, none⟩) 6 c0, .slice A1 n1 q1, .slice (some ⟨h2, 0, none⟩) 36 c2] 35) := ⟨_, rfl⟩
      have hb : Below w10.heap.size w10 w11 := by rw [hwc]; exact (Below.refl _ _).alloc (Nat.le_refl _) _
      have Ik := Lib.hid (Ik.out.to_below hb)
      have HW := Lib.hid (HW.out.trans (hb.mono HW.out.size))
      clear hb
      have Xk := Lib.hid (show Box3 w11 sk (.slice (some ⟨h0, 0, none⟩) 6 c0) (.slice A1 n1 q1) (.slice (some ⟨h2, 0, none⟩) 36 c2) by rw [hwc, es]; exact Box3.made _ _ _ _ _)
      have Tk := Lib.hid (show sk < w11.heap.size by rw [hwc, es]; simp)
      obtain ⟨U, eU⟩ : ∃ U, U = Co.put K := ⟨_, rfl⟩
      have HU := Lib.hid (show U.size ≤ maxLen by rw [eU]; exact Nat.le_trans (Co.put_size K) (by decide))
      have HEU := Lib.hid eU
      clear eU
      obtain ⟨gk0, gk1, gk2⟩ := Xk.out
      rw [es] at gk0 gk1 gk2
      rw [hwc] at gk0 gk1 gk2
      go_wp2_with fail
      clear gk0 gk1 gk2
      rw [← hwc]
      rw [← es]
      clear hwc es
      refine (implPutCost_any _ _ _ _ _ _ _ _ _ K _ Ik.out (by decide) HN1.out (by decide)).mono ?_
      rintro e w12 ⟨rfl, hb⟩
      have Xk := Lib.hid (Xk.out.below hb Tk.out)
      have Tk := Lib.hid (Nat.lt_of_lt_of_le Tk.out hb.size)
      have Ik := Lib.hid (Ik.out.to_below hb)
      have HW := Lib.hid (HW.out.trans (hb.mono HW.out.size))
      clear hb
      rw [← HEU.out]
      cases hok : Co.ok K with
      | false =>
        obtain rfl : U = ⟨#[]⟩ := by rw [HEU.out]; exact Co.put_no hok
        have HG := Lib.hid Co.get_none
        have HLY := Lib.hid (show Co.none.d.length ≤ 1048576 ∧ Co.none.i.length ≤ 1048576 ∧ Co.none.r.length ≤ 1048576 from ⟨by decide, by decide, by decide⟩)
        have HOK := Lib.hid hok
        clear hok
        go_wp2_with fail
        refine (implGotC HU.out HG.out _).mono ?_
        rintro e w13 ⟨B0, B1, B2, d0, d1, d2, rfl, hin, hb⟩
        have Xk := Lib.hid (Xk.out.below hb Tk.out)
        have Tk := Lib.hid (Nat.lt_of_lt_of_le Tk.out hb.size)
        have Ik := Lib.hid (Ik.out.to_below hb)
        have HW := Lib.hid (HW.out.trans (hb.mono HW.out.size))
        clear hb
        have Iy := Lib.hid hin
        clear hin
        obtain ⟨sy, es⟩ : ∃ s, s = w13.heap.size := ⟨_, rfl⟩
        obtain ⟨w14, hwc⟩ : ∃ wc, wc = w13.alloc (.cells #[.slice B0 Co.none.d.length d0, .slice B1 Co.none.i.length d1, .slice B2 Co.none.r.length d2] 35) := ⟨_, rfl⟩
        have hb : Below w13.heap.size w13 w14 := by rw [hwc]; exact (Below.refl _ _).alloc (Nat.le_refl _) _
        have Xk := Lib.hid (Xk.out.below hb Tk.out)
        have Tk := Lib.hid (Nat.lt_of_lt_of_le Tk.out hb.size)
        have Ik := Lib.hid (Ik.out.to_below hb)
        have Iy := Lib.hid (Iy.out.to_below hb)
        have HW := Lib.hid (HW.out.trans (hb.mono HW.out.size))
        clear hb
        have Xy := Lib.hid (show Box3 w14 sy (.slice B0 Co.none.d.length d0) (.slice B1 Co.none.i.length d1) (.slice B2 Co.none.r.length d2) by rw [hwc, es]; exact Box3.made _ _ _ _ _)
        have Ty := Lib.hid (show sy < w14.heap.size by rw [hwc, es]; simp)
        go_wp2_with fail
        rw [← hwc]
        rw [← es]
        clear hwc es
        refine (drawGetCost_ex _ k (CodeIn.onto HC.out HW.out HW.out.size) hlen).mono ?_
        rintro e w15 ⟨V, rfl, hV, hb⟩
        have Xk := Lib.hid (Xk.out.below hb Tk.out)
        have Tk := Lib.hid (Nat.lt_of_lt_of_le Tk.out hb.size)
        have Xy := Lib.hid (Xy.out.below hb Ty.out)
        have Ty := Lib.hid (Nat.lt_of_lt_of_le Ty.out hb.size)
        have Ik := Lib.hid (Ik.out.to_below hb)
        have Iy := Lib.hid (Iy.out.to_below hb)
        have HW := Lib.hid (HW.out.trans (hb.mono HW.out.size))
        clear hb
        have HV := Lib.hid (show V.size ≤ maxLen from Nat.le_trans hV (by decide))
        clear hV
        rcases hz : Co.get V with ⟨Z, fine⟩
        have HZ := Lib.hid hz
        have HLZ := Lib.hid (show Z.d.length ≤ 1048576 ∧ Z.i.length ≤ 1048576 ∧ Z.r.length ≤ 1048576 by have := Co.get_len V; rw [hz] at this; simp only at this; omega)
        have HPZ := Lib.hid (show fine = true → Co.put Z = V by intro h; have := Co.get_ok (s := V) (by rw [hz]; exact h); rw [hz] at this; exact this)
        clear hz
        go_wp2_with fail
        refine (implGotC HV.out HZ.out _).mono ?_
        rintro e w16 ⟨E0, E1, E2, f0, f1, f2, rfl, hin, hb⟩
        have Xk := Lib.hid (Xk.out.below hb Tk.out)
        have Tk := Lib.hid (Nat.lt_of_lt_of_le Tk.out hb.size)
        have Xy := Lib.hid (Xy.out.below hb Ty.out)
        have Ty := Lib.hid (Nat.lt_of_lt_of_le Ty.out hb.size)
        have Ik := Lib.hid (Ik.out.to_below hb)
        have Iy := Lib.hid (Iy.out.to_below hb)
        have HW := Lib.hid (HW.out.trans (hb.mono HW.out.size))
        clear hb
        have Iz := Lib.hid hin
        clear hin
        obtain ⟨sz, es⟩ : ∃ s, s = w16.heap.size := ⟨_, rfl⟩
        obtain ⟨w17, hwc⟩ : ∃ wc, wc = w16.alloc (.cells #[.slice E0 Z.d.length f0, .slice E1 Z.i.length f1, .slice E2 Z.r.length f2] 35) := ⟨_, rfl⟩
        have hb : Below w16.heap.size w16 w17 := by rw [hwc]; exact (Below.refl _ _).alloc (Nat.le_refl _) _
        have Xk := Lib.hid (Xk.out.below hb Tk.out)
        have Tk := Lib.hid (Nat.lt_of_lt_of_le Tk.out hb.size)
        have Xy := Lib.hid (Xy.out.below hb Ty.out)
        have Ty := Lib.hid (Nat.lt_of_lt_of_le Ty.out hb.size)
        have Ik := Lib.hid (Ik.out.to_below hb)
        have Iy := Lib.hid (Iy.out.to_below hb)
        have Iz := Lib.hid (Iz.out.to_below hb)
        have HW := Lib.hid (HW.out.trans (hb.mono HW.out.size))
        clear hb
        have Xz := Lib.hid (show Box3 w17 sz (.slice E0 Z.d.length f0) (.slice E1 Z.i.length f1) (.slice E2 Z.r.length f2) by rw [hwc, es]; exact Box3.made _ _ _ _ _)
        have Tz := Lib.hid (show sz < w17.heap.size by rw [hwc, es]; simp)
        go_wp2_with fail
        rw [← hwc]
        rw [← es]
        clear hwc es
        refine (specGotC HV.out HZ.out _).mono ?_
        rintro e w18 ⟨J0, J1, J2, i0, i1, i2, rfl, hin, hb⟩
        have Xk := Lib.hid (Xk.out.below hb Tk.out)
        have Tk := Lib.hid (Nat.lt_of_lt_of_le Tk.out hb.size)
        have Xy := Lib.hid (Xy.out.below hb Ty.out)
        have Ty := Lib.hid (Nat.lt_of_lt_of_le Ty.out hb.size)
        have Xz := Lib.hid (Xz.out.below hb Tz.out)
        have Tz := Lib.hid (Nat.lt_of_lt_of_le Tz.out hb.size)
        have Ik := Lib.hid (Ik.out.to_below hb)
        have Iy := Lib.hid (Iy.out.to_below hb)
        have Iz := Lib.hid (Iz.out.to_below hb)
        have HW := Lib.hid (HW.out.trans (hb.mono HW.out.size))
        clear hb
        clear hin
        obtain ⟨st, es⟩ : ∃ s, s = w18.heap.size := ⟨_, rfl⟩
        obtain ⟨w19, hwc⟩ : ∃ wc, wc = w18.alloc (.cells #[.slice J0 Z.d.length i0, .slice J1 Z.i.length i1, .slice J2 Z.r.length i2] 35) := ⟨_, rfl⟩
        have hb : Below w18.heap.size w18 w19 := by rw [hwc]; exact (Below.refl _ _).alloc (Nat.le_refl _) _
        have Xk := Lib.hid (Xk.out.below hb Tk.out)
        have Tk := Lib.hid (Nat.lt_of_lt_of_le Tk.out hb.size)
        have Xy := Lib.hid (Xy.out.below hb Ty.out)
        have Ty := Lib.hid (Nat.lt_of_lt_of_le Ty.out hb.size)
        have Xz := Lib.hid (Xz.out.below hb Tz.out)
        have Tz := Lib.hid (Nat.lt_of_lt_of_le Tz.out hb.size)
        have Ik := Lib.hid (Ik.out.to_below hb)
        have Iy := Lib.hid (Iy.out.to_below hb)
        have Iz := Lib.hid (Iz.out.to_below hb)
        have HW := Lib.hid (HW.out.trans (hb.mono HW.out.size))
        clear hb
        have Xt := Lib.hid (show Box3 w19 st (.slice J0 Z.d.length i0) (.slice J1 Z.i.length i1) (.slice J2 Z.r.length i2) by rw [hwc, es]; exact Box3.made _ _ _ _ _)
        have Tt := Lib.hid (show st < w19.heap.size by rw [hwc, es]; simp)
        obtain ⟨gk0, gk1, gk2⟩ := Xk.out
        rw [hwc] at gk0 gk1 gk2
        go_wp2_with fail
        clear gk0 gk1 gk2
        rw [← hwc]
        rw [← es]
        clear hwc es
        refine (specCostOk_any _ _ _ _ _ _ _ _ _ K _ Ik.out (by decide) HN1.out (by decide)).mono ?_
        rintro e w20 ⟨rfl, hb⟩
        have Xk := Lib.hid (Xk.out.below hb Tk.out)
        have Tk := Lib.hid (Nat.lt_of_lt_of_le Tk.out hb.size)
        have Xy := Lib.hid (Xy.out.below hb Ty.out)
        have Ty := Lib.hid (Nat.lt_of_lt_of_le Ty.out hb.size)
        have Xz := Lib.hid (Xz.out.below hb Tz.out)
        have Tz := Lib.hid (Nat.lt_of_lt_of_le Tz.out hb.size)
        have Xt := Lib.hid (Xt.out.below hb Tt.out)
        have Tt := Lib.hid (Nat.lt_of_lt_of_le Tt.out hb.size)
        have Ik := Lib.hid (Ik.out.to_below hb)
        have Iy := Lib.hid (Iy.out.to_below hb)
        have Iz := Lib.hid (Iz.out.to_below hb)
        have HW := Lib.hid (HW.out.trans (hb.mono HW.out.size))
        clear hb
        rw [HOK.out]
        cases fine with
        | false =>
          go_wp2
          go_ret
          exact ⟨rfl, HW.out⟩
        | true =>
          obtain ⟨gz0, gz1, gz2⟩ := Xz.out
          go_wp2_with fail
          clear gz0 gz1 gz2
          refine (implPutCost_any _ _ _ _ _ _ _ _ _ Z _ Iz.out HLZ.out.1 HLZ.out.2.1 HLZ.out.2.2).mono ?_
          rintro e w21 ⟨rfl, hb⟩
          have Xk := Lib.hid (Xk.out.below hb Tk.out)
          have Tk := Lib.hid (Nat.lt_of_lt_of_le Tk.out hb.size)
          have Xy := Lib.hid (Xy.out.below hb Ty.out)
          have Ty := Lib.hid (Nat.lt_of_lt_of_le Ty.out hb.size)
          have Xz := Lib.hid (Xz.out.below hb Tz.out)
          have Tz := Lib.hid (Nat.lt_of_lt_of_le Tz.out hb.size)
          have Xt := Lib.hid (Xt.out.below hb Tt.out)
          have Tt := Lib.hid (Nat.lt_of_lt_of_le Tt.out hb.size)
          have Ik := Lib.hid (Ik.out.to_below hb)
          have Iy := Lib.hid (Iy.out.to_below hb)
          have Iz := Lib.hid (Iz.out.to_below hb)
          have HW := Lib.hid (HW.out.trans (hb.mono HW.out.size))
          clear hb
          rw [HPZ.out (by simp)]
          go_wp2
          go_ret
          exact ⟨rfl, HW.out⟩
      | true =>
        have HG := Lib.hid (show Co.get U = (K, true) by rw [HEU.out]; exact Co.get_put hok)
        have hlK := Co.ok_len hok
        have HLY := Lib.hid (show K.d.length ≤ 1048576 ∧ K.i.length ≤ 1048576 ∧ K.r.length ≤ 1048576 by omega)
        clear hlK
        have HOK := Lib.hid hok
        clear hok
        go_wp2_with fail
        refine (implGotC HU.out HG.out _).mono ?_
        rintro e w13 ⟨B0, B1, B2, d0, d1, d2, rfl, hin, hb⟩
        have Xk := Lib.hid (Xk.out.below hb Tk.out)
        have Tk := Lib.hid (Nat.lt_of_lt_of_le Tk.out hb.size)
        have Ik := Lib.hid (Ik.out.to_below hb)
        have HW := Lib.hid (HW.out.trans (hb.mono HW.out.size))
        clear hb
        have Iy := Lib.hid hin
        clear hin
        obtain ⟨sy, es⟩ : ∃ s, s = w13.heap.size := ⟨_, rfl⟩
        obtain ⟨w14, hwc⟩ : ∃ wc, wc = w13.alloc (.cells #[.slice B0 K.d.length d0, .slice B1 K.i.length d1, .slice B2 K.r.length d2] 35) := ⟨_, rfl⟩
        have hb : Below w13.heap.size w13 w14 := by rw [hwc]; exact (Below.refl _ _).alloc (Nat.le_refl _) _
        have Xk := Lib.hid (Xk.out.below hb Tk.out)
        have Tk := Lib.hid (Nat.lt_of_lt_of_le Tk.out hb.size)
        have Ik := Lib.hid (Ik.out.to_below hb)
        have Iy := Lib.hid (Iy.out.to_below hb)
        have HW := Lib.hid (HW.out.trans (hb.mono HW.out.size))
        clear hb
        have Xy := Lib.hid (show Box3 w14 sy (.slice B0 K.d.length d0) (.slice B1 K.i.length d1) (.slice B2 K.r.length d2) by rw [hwc, es]; exact Box3.made _ _ _ _ _)
        have Ty := Lib.hid (show sy < w14.heap.size by rw [hwc, es]; simp)
        go_wp2_with fail
        rw [← hwc]
        rw [← es]
        clear hwc es
        refine (drawGetCost_ex _ k (CodeIn.onto HC.out HW.out HW.out.size) hlen).mono ?_
        rintro e w15 ⟨V, rfl, hV, hb⟩
        have Xk := Lib.hid (Xk.out.below hb Tk.out)
        have Tk := Lib.hid (Nat.lt_of_lt_of_le Tk.out hb.size)
        have Xy := Lib.hid (Xy.out.below hb Ty.out)
        have Ty := Lib.hid (Nat.lt_of_lt_of_le Ty.out hb.size)
        have Ik := Lib.hid (Ik.out.to_below hb)
        have Iy := Lib.hid (Iy.out.to_below hb)
        have HW := Lib.hid (HW.out.trans (hb.mono HW.out.size))
        clear hb
        have HV := Lib.hid (show V.size ≤ maxLen from Nat.le_trans hV (by decide))
        clear hV
        rcases hz : Co.get V with ⟨Z, fine⟩
        have HZ := Lib.hid hz
        have HLZ := Lib.hid (show Z.d.length ≤ 1048576 ∧ Z.i.length ≤ 1048576 ∧ Z.r.length ≤ 1048576 by have := Co.get_len V; rw [hz] at this; simp only at this; omega)
        have HPZ := Lib.hid (show fine = true → Co.put Z = V by intro h; have := Co.get_ok (s := V) (by rw [hz]; exact h); rw [hz] at this; exact this)
        clear hz
        go_wp2_with fail
        refine (implGotC HV.out HZ.out _).mono ?_
        rintro e w16 ⟨E0, E1, E2, f0, f1, f2, rfl, hin, hb⟩
        have Xk := Lib.hid (Xk.out.below hb Tk.out)
        have Tk := Lib.hid (Nat.lt_of_lt_of_le Tk.out hb.size)
        have Xy := Lib.hid (Xy.out.below hb Ty.out)
        have Ty := Lib.hid (Nat.lt_of_lt_of_le Ty.out hb.size)
        have Ik := Lib.hid (Ik.out.to_below hb)
        have Iy := Lib.hid (Iy.out.to_below hb)
        have HW := Lib.hid (HW.out.trans (hb.mono HW.out.size))
        clear hb
        have Iz := Lib.hid hin
        clear hin
        obtain ⟨sz, es⟩ : ∃ s, s = w16.heap.size := ⟨_, rfl⟩
        obtain ⟨w17, hwc⟩ : ∃ wc, wc = w16.alloc (.cells #[.slice E0 Z.d.length f0, .slice E1 Z.i.length f1, .slice E2 Z.r.length f2] 35) := ⟨_, rfl⟩
        have hb : Below w16.heap.size w16 w17 := by rw [hwc]; exact (Below.refl _ _).alloc (Nat.le_refl _) _
        have Xk := Lib.hid (Xk.out.below hb Tk.out)
        have Tk := Lib.hid (Nat.lt_of_lt_of_le Tk.out hb.size)
        have Xy := Lib.hid (Xy.out.below hb Ty.out)
        have Ty := Lib.hid (Nat.lt_of_lt_of_le Ty.out hb.size)
        have Ik := Lib.hid (Ik.out.to_below hb)
        have Iy := Lib.hid (Iy.out.to_below hb)
        have Iz := Lib.hid (Iz.out.to_below hb)
        have HW := Lib.hid (HW.out.trans (hb.mono HW.out.size))
        clear hb
        have Xz := Lib.hid (show Box3 w17 sz (.slice E0 Z.d.length f0) (.slice E1 Z.i.length f1) (.slice E2 Z.r.length f2) by rw [hwc, es]; exact Box3.made _ _ _ _ _)
        have Tz := Lib.hid (show sz < w17.heap.size by rw [hwc, es]; simp)
        go_wp2_with fail
        rw [← hwc]
        rw [← es]
        clear hwc es
        refine (specGotC HV.out HZ.out _).mono ?_
        rintro e w18 ⟨J0, J1, J2, i0, i1, i2, rfl, hin, hb⟩
        have Xk := Lib.hid (Xk.out.below hb Tk.out)
        have Tk := Lib.hid (Nat.lt_of_lt_of_le Tk.out hb.size)
        have Xy := Lib.hid (Xy.out.below hb Ty.out)
        have Ty := Lib.hid (Nat.lt_of_lt_of_le Ty.out hb.size)
        have Xz := Lib.hid (Xz.out.below hb Tz.out)
        have Tz := Lib.hid (Nat.lt_of_lt_of_le Tz.out hb.size)
        have Ik := Lib.hid (Ik.out.to_below hb)
        have Iy := Lib.hid (Iy.out.to_below hb)
        have Iz := Lib.hid (Iz.out.to_below hb)
        have HW := Lib.hid (HW.out.trans (hb.mono HW.out.size))
        clear hb
        clear hin
        obtain ⟨st, es⟩ : ∃ s, s = w18.heap.size := ⟨_, rfl⟩
        obtain ⟨w19, hwc⟩ : ∃ wc, wc = w18.alloc (.cells #[.slice J0 Z.d.length i0, .slice J1 Z.i.length i1, .slice J2 Z.r.length i2] 35) := ⟨_, rfl⟩
        have hb : Below w18.heap.size w18 w19 := by rw [hwc]; exact (Below.refl _ _).alloc (Nat.le_refl _) _
        have Xk := Lib.hid (Xk.out.below hb Tk.out)
        have Tk := Lib.hid (Nat.lt_of_lt_of_le Tk.out hb.size)
        have Xy := Lib.hid (Xy.out.below hb Ty.out)
        have Ty := Lib.hid (Nat.lt_of_lt_of_le Ty.out hb.size)
        have Xz := Lib.hid (Xz.out.below hb Tz.out)
        have Tz := Lib.hid (Nat.lt_of_lt_of_le Tz.out hb.size)
        have Ik := Lib.hid (Ik.out.to_below hb)
        have Iy := Lib.hid (Iy.out.to_below hb)
        have Iz := Lib.hid (Iz.out.to_below hb)
        have HW := Lib.hid (HW.out.trans (hb.mono HW.out.size))
        clear hb
        have Xt := Lib.hid (show Box3 w19 st (.slice J0 Z.d.length i0) (.slice J1 Z.i.length i1) (.slice J2 Z.r.length i2) by rw [hwc, es]; exact Box3.made _ _ _ _ _)
        have Tt := Lib.hid (show st < w19.heap.size by rw [hwc, es]; simp)
        obtain ⟨gk0, gk1, gk2⟩ := Xk.out
        rw [hwc] at gk0 gk1 gk2
        go_wp2_with fail
        clear gk0 gk1 gk2
        rw [← hwc]
        rw [← es]
        clear hwc es
        refine (specCostOk_any _ _ _ _ _ _ _ _ _ K _ Ik.out (by decide) HN1.out (by decide)).mono ?_
        rintro e w20 ⟨rfl, hb⟩
        have Xk := Lib.hid (Xk.out.below hb Tk.out)
        have Tk := Lib.hid (Nat.lt_of_lt_of_le Tk.out hb.size)
        have Xy := Lib.hid (Xy.out.below hb Ty.out)
        have Ty := Lib.hid (Nat.lt_of_lt_of_le Ty.out hb.size)
        have Xz := Lib.hid (Xz.out.below hb Tz.out)
        have Tz := Lib.hid (Nat.lt_of_lt_of_le Tz.out hb.size)
        have Xt := Lib.hid (Xt.out.below hb Tt.out)
        have Tt := Lib.hid (Nat.lt_of_lt_of_le Tt.out hb.size)
        have Ik := Lib.hid (Ik.out.to_below hb)
        have Iy := Lib.hid (Iy.out.to_below hb)
        have Iz := Lib.hid (Iz.out.to_below hb)
        have HW := Lib.hid (HW.out.trans (hb.mono HW.out.size))
        clear hb
        rw [HOK.out]
        obtain ⟨gk0, gk1, gk2⟩ := Xk.out
        obtain ⟨gy0, gy1, gy2⟩ := Xy.out
        go_wp2_with fail
        clear gk0 gk1 gk2
        clear gy0 gy1 gy2
        refine (specSameCost_any _ _ _ _ _ _ _ _ _ _ _ _ _ _ _ _ _ _ K K _ Ik.out Iy.out (by decide) HN1.out (by decide) HLY.out.1 HLY.out.2.1 HLY.out.2.2).mono ?_
        rintro e w21 ⟨rfl, hb⟩
        have Xk := Lib.hid (Xk.out.below hb Tk.out)
        have Tk := Lib.hid (Nat.lt_of_lt_of_le Tk.out hb.size)
        have Xy := Lib.hid (Xy.out.below hb Ty.out)
        have Ty := Lib.hid (Nat.lt_of_lt_of_le Ty.out hb.size)
        have Xz := Lib.hid (Xz.out.below hb Tz.out)
        have Tz := Lib.hid (Nat.lt_of_lt_of_le Tz.out hb.size)
        have Xt := Lib.hid (Xt.out.below hb Tt.out)
        have Tt := Lib.hid (Nat.lt_of_lt_of_le Tt.out hb.size)
        have Ik := Lib.hid (Ik.out.to_below hb)
        have Iy := Lib.hid (Iy.out.to_below hb)
        have Iz := Lib.hid (Iz.out.to_below hb)
        have HW := Lib.hid (HW.out.trans (hb.mono HW.out.size))
        clear hb
        rw [Co.same_refl]
        obtain ⟨gk0, gk1, gk2⟩ := Xk.out
        obtain ⟨gy0, gy1, gy2⟩ := Xy.out
        go_wp2_with fail
        clear gk0 gk1 gk2
        clear gy0 gy1 gy2
        refine (implSameCost_any _ _ _ _ _ _ _ _ _ _ _ _ _ _ _ _ _ _ K K _ Ik.out Iy.out (by decide) HN1.out (by decide) HLY.out.1 HLY.out.2.1 HLY.out.2.2).mono ?_
        rintro e w22 ⟨rfl, hb⟩
        have Xk := Lib.hid (Xk.out.below hb Tk.out)
        have Tk := Lib.hid (Nat.lt_of_lt_of_le Tk.out hb.size)
        have Xy := Lib.hid (Xy.out.below hb Ty.out)
        have Ty := Lib.hid (Nat.lt_of_lt_of_le Ty.out hb.size)
        have Xz := Lib.hid (Xz.out.below hb Tz.out)
        have Tz := Lib.hid (Nat.lt_of_lt_of_le Tz.out hb.size)
        have Xt := Lib.hid (Xt.out.below hb Tt.out)
        have Tt := Lib.hid (Nat.lt_of_lt_of_le Tt.out hb.size)
        have Ik := Lib.hid (Ik.out.to_below hb)
        have Iy := Lib.hid (Iy.out.to_below hb)
        have Iz := Lib.hid (Iz.out.to_below hb)
        have HW := Lib.hid (HW.out.trans (hb.mono HW.out.size))
        clear hb
        rw [Co.same_refl]
        cases fine with
        | false =>
          go_wp2
          go_ret
          exact ⟨rfl, HW.out⟩
        | true =>
          obtain ⟨gz0, gz1, gz2⟩ := Xz.out
          go_wp2_with fail
          clear gz0 gz1 gz2
          refine (implPutCost_any _ _ _ _ _ _ _ _ _ Z _ Iz.out HLZ.out.1 HLZ.out.2.1 HLZ.out.2.2).mono ?_
          rintro e w23 ⟨rfl, hb⟩
          have Xk := Lib.hid (Xk.out.below hb Tk.out)
          have Tk := Lib.hid (Nat.lt_of_lt_of_le Tk.out hb.size)
          have Xy := Lib.hid (Xy.out.below hb Ty.out)
          have Ty := Lib.hid (Nat.lt_of_lt_of_le Ty.out hb.size)
          have Xz := Lib.hid (Xz.out.below hb Tz.out)
          have Tz := Lib.hid (Nat.lt_of_lt_of_le Tz.out hb.size)
          have Xt := Lib.hid (Xt.out.below hb Tt.out)
          have Tt := Lib.hid (Nat.lt_of_lt_of_le Tt.out hb.size)
          have Ik := Lib.hid (Ik.out.to_below hb)
          have Iy := Lib.hid (Iy.out.to_below hb)
          have Iz := Lib.hid (Iz.out.to_below hb)
          have HW := Lib.hid (HW.out.trans (hb.mono HW.out.size))
          clear hb
          rw [HPZ.out (by simp)]
          go_wp2
          go_ret
          exact ⟨rfl, HW.out⟩
    · have HD0 := True.intro
      obtain rfl : ys = [] := hgc.2 d0
      have e1 : (d == 0) = false := by simpa using d0
      have e2 : (d != 0) = true := by simpa using d0
      clear HD0 hgo hgc d0
      obtain ⟨C, eC⟩ : ∃ C, C = TrCode.name d := ⟨_, rfl⟩
      have hC : C.toList.isEmpty = false := by rw [eC, List.isEmpty_eq_false_iff]; exact HC0.out
      have HEC := Lib.hid eC
      clear eC
      go_wp2_with fail
      refine (implGot HT2.out HG.out _).mono ?_
      rintro e w7 ⟨A3, c3, rfl, ho, hb⟩
      have HW := Lib.hid (HW.out.trans (hb.mono HW.out.size))
      clear hb
      clear ho
      go_wp2_with fail
      refine (specGot HT2.out HG.out _).mono ?_
      rintro e w8 ⟨A4, c4, rfl, ho, hb⟩
      have HW := Lib.hid (HW.out.trans (hb.mono HW.out.size))
      clear hb
      clear ho
      go_wp2_with fail
      have htw := HTC.out.below HW.out
      refine (implTreeCode_any d _ htw).mono ?_
      rintro e w' ⟨rfl, rfl⟩
      clear htw
      rw [← HEC.out]
      go_wp2_with fail
      refine (drawPutCost_ex _ k (CodeIn.onto HC.out HW.out HW.out.size) hlen).mono ?_
      rintro e w9 ⟨h0, h1, h2, c0, c2, A1, n1, q1, K, rfl, hn1, hin, hb⟩
      have HW := Lib.hid (HW.out.trans (hb.mono HW.out.size))
      clear hb
      have HN1 := Lib.hid (show n1 ≤ 1048576 by omega)
      have Ik := Lib.hid hin
      clear hin hn1
      obtain ⟨sk, es⟩ : ∃ s, s = w9.heap.size := ⟨_, rfl⟩
      obtain ⟨w10, hwc⟩ : ∃ wc, wc = w9.alloc (.cells #[.slice (some ⟨h0, 0, none⟩) 6 c0, .slice A1 n1 q1, .slice (some ⟨h2, 0, none⟩) 36 c2] 35) := ⟨_, rfl⟩
      have hb : Below w9.heap.size w9 w10 := by rw [hwc]; exact (Below.refl _ _).alloc (Nat.le_refl _) _
      have Ik := Lib.hid (Ik.out.to_below hb)
      have HW := Lib.hid (HW.out.trans (hb.mono HW.out.size))
      clear hb
      have Xk := Lib.hid (show Box3 w10 sk (.slice (some ⟨h0, 0, none⟩) 6 c0) (.slice A1 n1 q1) (.slice (some ⟨h2, 0, none⟩) 36 c2) by rw [hwc, es]; exact Box3.made _ _ _ _ _)
      have Tk := Lib.hid (show sk < w10.heap.size by rw [hwc, es]; simp)
      obtain ⟨U, eU⟩ : ∃ U, U = Co.put K := ⟨_, rfl⟩
      have HU := Lib.hid (show U.size ≤ maxLen by rw [eU]; exact Nat.le_trans (Co.put_size K) (by decide))
      have HEU := Lib.hid eU
      clear eU
      obtain ⟨gk0, gk1, gk2⟩ := Xk.out
      rw [es] at gk0 gk1 gk2
      rw [hwc] at gk0 gk1 gk2
      go_wp2_with fail
      clear gk0 gk1 gk2
      rw [← hwc]
      rw [← es]
      clear hwc es
      refine (implPutCost_any _ _ _ _ _ _ _ _ _ K _ Ik.out (by decide) HN1.out (by decide)).mono ?_
      rintro e w11 ⟨rfl, hb⟩
      have Xk := Lib.hid (Xk.out.below hb Tk.out)
      have Tk := Lib.hid (Nat.lt_of_lt_of_le Tk.out hb.size)
      have Ik := Lib.hid (Ik.out.to_below hb)
      have HW := Lib.hid (HW.out.trans (hb.mono HW.out.size))
      clear hb
      rw [← HEU.out]
      cases hok : Co.ok K with
      | false =>
        obtain rfl : U = ⟨#[]⟩ := by rw [HEU.out]; exact Co.put_no hok
        have HG := Lib.hid Co.get_none
        have HLY := Lib.hid (show Co.none.d.length ≤ 1048576 ∧ Co.none.i.length ≤ 1048576 ∧ Co.none.r.length ≤ 1048576 from ⟨by decide, by decide, by decide⟩)
        have HOK := Lib.hid hok
        clear hok
        go_wp2_with fail
        refine (implGotC HU.out HG.out _).mono ?_
        rintro e w12 ⟨B0, B1, B2, d0, d1, d2, rfl, hin, hb⟩
        have Xk := Lib.hid (Xk.out.below hb Tk.out)
        have Tk := Lib.hid (Nat.lt_of_lt_of_le Tk.out hb.size)
        have Ik := Lib.hid (Ik.out.to_below hb)
        have HW := Lib.hid (HW.out.trans (hb.mono HW.out.size))
        clear hb
        have Iy := Lib.hid hin
        clear hin
        obtain ⟨sy, es⟩ : ∃ s, s = w12.heap.size := ⟨_, rfl⟩
        obtain ⟨w13, hwc⟩ : ∃ wc, wc = w12.alloc (.cells #[.slice B0 Co.none.d.length d0, .slice B1 Co.none.i.length d1, .slice B2 Co.none.r.length d2] 35) := ⟨_, rfl⟩
        have hb : Below w12.heap.size w12 w13 := by rw [hwc]; exact (Below.refl _ _).alloc (Nat.le_refl _) _
        have Xk := Lib.hid (Xk.out.below hb Tk.out)
        have Tk := Lib.hid (Nat.lt_of_lt_of_le Tk.out hb.size)
        have Ik := Lib.hid (Ik.out.to_below hb)
        have Iy := Lib.hid (Iy.out.to_below hb)
        have HW := Lib.hid (HW.out.trans (hb.mono HW.out.size))
        clear hb
        have Xy := Lib.hid (show Box3 w13 sy (.slice B0 Co.none.d.length d0) (.slice B1 Co.none.i.length d1) (.slice B2 Co.none.r.length d2) by rw [hwc, es]; exact Box3.made _ _ _ _ _)
        have Ty := Lib.hid (show sy < w13.heap.size by rw [hwc, es]; simp)
        go_wp2_with fail
        rw [← hwc]
        rw [← es]
        clear hwc es
        refine (drawGetCost_ex _ k (CodeIn.onto HC.out HW.out HW.out.size) hlen).mono ?_
        rintro e w14 ⟨V, rfl, hV, hb⟩
        have Xk := Lib.hid (Xk.out.below hb Tk.out)
        have Tk := Lib.hid (Nat.lt_of_lt_of_le Tk.out hb.size)
        have Xy := Lib.hid (Xy.out.below hb Ty.out)
        have Ty := Lib.hid (Nat.lt_of_lt_of_le Ty.out hb.size)
        have Ik := Lib.hid (Ik.out.to_below hb)
        have Iy := Lib.hid (Iy.out.to_below hb)
        have HW := Lib.hid (HW.out.trans (hb.mono HW.out.size))
        clear hb
        have HV := Lib.hid (show V.size ≤ maxLen from Nat.le_trans hV (by decide))
        clear hV
        rcases hz : Co.get V with ⟨Z, fine⟩
        have HZ := Lib.hid hz
        have HLZ := Lib.hid (show Z.d.length ≤ 1048576 ∧ Z.i.length ≤ 1048576 ∧ Z.r.length ≤ 1048576 by have := Co.get_len V; rw [hz] at this; simp only at this; omega)
        have HPZ := Lib.hid (show fine = true → Co.put Z = V by intro h; have := Co.get_ok (s := V) (by rw [hz]; exact h); rw [hz] at this; exact this)
        clear hz
        go_wp2_with fail
        refine (implGotC HV.out HZ.out _).mono ?_
        rintro e w15 ⟨E0, E1, E2, f0, f1, f2, rfl, hin, hb⟩
        have Xk := Lib.hid (Xk.out.below hb Tk.out)
        have Tk := Lib.hid (Nat.lt_of_lt_of_le Tk.out hb.size)
        have Xy := Lib.hid (Xy.out.below hb Ty.out)
        have Ty := Lib.hid (Nat.lt_of_lt_of_le Ty.out hb.size)
        have Ik := Lib.hid (Ik.out.to_below hb)
        have Iy := Lib.hid (Iy.out.to_below hb)
        have HW := Lib.hid (HW.out.trans (hb.mono HW.out.size))
        clear hb
        have Iz := Lib.hid hin
        clear hin
        obtain ⟨sz, es⟩ : ∃ s, s = w15.heap.size := ⟨_, rfl⟩
        obtain ⟨w16, hwc⟩ : ∃ wc, wc = w15.alloc (.cells #[.slice E0 Z.d.length f0, .slice E1 Z.i.length f1, .slice E2 Z.r.length f2] 35) := ⟨_, rfl⟩
        have hb : Below w15.heap.size w15 w16 := by rw [hwc]; exact (Below.refl _ _).alloc (Nat.le_refl _) _
        have Xk := Lib.hid (Xk.out.below hb Tk.out)
        have Tk := Lib.hid (Nat.lt_of_lt_of_le Tk.out hb.size)
        have Xy := Lib.hid (Xy.out.below hb Ty.out)
        have Ty := Lib.hid (Nat.lt_of_lt_of_le Ty.out hb.size)
        have Ik := Lib.hid (Ik.out.to_below hb)
        have Iy := Lib.hid (Iy.out.to_below hb)
        have Iz := Lib.hid (Iz.out.to_below hb)
        have HW := Lib.hid (HW.out.trans (hb.mono HW.out.size))
        clear hb
        have Xz := Lib.hid (show Box3 w16 sz (.slice E0 Z.d.length f0) (.slice E1 Z.i.length f1) (.slice E2 Z.r.length f2) by rw [hwc, es]; exact Box3.made _ _ _ _ _)
        have Tz := Lib.hid (show sz < w16.heap.size by rw [hwc, es]; simp)
        go_wp2_with fail
        rw [← hwc]
        rw [← es]
        clear hwc es
        refine (specGotC HV.out HZ.out _).mono ?_
        rintro e w17 ⟨J0, J1, J2, i0, i1, i2, rfl, hin, hb⟩
        have Xk := Lib.hid (Xk.out.below hb Tk.out)
        have Tk := Lib.hid (Nat.lt_of_lt_of_le Tk.out hb.size)
        have Xy := Lib.hid (Xy.out.below hb Ty.out)
        have Ty := Lib.hid (Nat.lt_of_lt_of_le Ty.out hb.size)
        have Xz := Lib.hid (Xz.out.below hb Tz.out)
        have Tz := Lib.hid (Nat.lt_of_lt_of_le Tz.out hb.size)
        have Ik := Lib.hid (Ik.out.to_below hb)
        have Iy := Lib.hid (Iy.out.to_below hb)
        have Iz := Lib.hid (Iz.out.to_below hb)
        have HW := Lib.hid (HW.out.trans (hb.mono HW.out.size))
        clear hb
        clear hin
        obtain ⟨st, es⟩ : ∃ s, s = w17.heap.size := ⟨_, rfl⟩
        obtain ⟨w18, hwc⟩ : ∃ wc, wc = w17.alloc (.cells #[.slice J0 Z.d.length i0, .slice J1 Z.i.length i1, .slice J2 Z.r.length i2] 35) := ⟨_, rfl⟩
        have hb : Below w17.heap.size w17 w18 := by rw [hwc]; exact (Below.refl _ _).alloc (Nat.le_refl _) _
        have Xk := Lib.hid (Xk.out.below hb Tk.out)
        have Tk := Lib.hid (Nat.lt_of_lt_of_le Tk.out hb.size)
        have Xy := Lib.hid (Xy.out.below hb Ty.out)
        have Ty := Lib.hid (Nat.lt_of_lt_of_le Ty.out hb.size)
        have Xz := Lib.hid (Xz.out.below hb Tz.out)
        have Tz := Lib.hid (Nat.lt_of_lt_of_le Tz.out hb.size)
        have Ik := Lib.hid (Ik.out.to_below hb)
        have Iy := Lib.hid (Iy.out.to_below hb)
        have Iz := Lib.hid (Iz.out.to_below hb)
        have HW := Lib.hid (HW.out.trans (hb.mono HW.out.size))
        clear hb
        have Xt := Lib.hid (show Box3 w18 st (.slice J0 Z.d.length i0) (.slice J1 Z.i.length i1) (.slice J2 Z.r.length i2) by rw [hwc, es]; exact Box3.made _ _ _ _ _)
        have Tt := Lib.hid (show st < w18.heap.size by rw [hwc, es]; simp)
        obtain ⟨gk0, gk1, gk2⟩ := Xk.out
        rw [hwc] at gk0 gk1 gk2
        go_wp2_with fail
        clear gk0 gk1 gk2
        rw [← hwc]
        rw [← es]
        clear hwc es
        refine (specCostOk_any _ _ _ _ _ _ _ _ _ K _ Ik.out (by decide) HN1.out (by decide)).mono ?_
        rintro e w19 ⟨rfl, hb⟩
        have Xk := Lib.hid (Xk.out.below hb Tk.out)
        have Tk := Lib.hid (Nat.lt_of_lt_of_le Tk.out hb.size)
        have Xy := Lib.hid (Xy.out.below hb Ty.out)
        have Ty := Lib.hid (Nat.lt_of_lt_of_le Ty.out hb.size)
        have Xz := Lib.hid (Xz.out.below hb Tz.out)
        have Tz := Lib.hid (Nat.lt_of_lt_of_le Tz.out hb.size)
        have Xt := Lib.hid (Xt.out.below hb Tt.out)
        have Tt := Lib.hid (Nat.lt_of_lt_of_le Tt.out hb.size)
        have Ik := Lib.hid (Ik.out.to_below hb)
        have Iy := Lib.hid (Iy.out.to_below hb)
        have Iz := Lib.hid (Iz.out.to_below hb)
        have HW := Lib.hid (HW.out.trans (hb.mono HW.out.size))
        clear hb
        rw [HOK.out]
        cases fine with
        | false =>
          go_wp2
          go_ret
          exact ⟨rfl, HW.out⟩
        | true =>
          obtain ⟨gz0, gz1, gz2⟩ := Xz.out
          go_wp2_with fail
          clear gz0 gz1 gz2
          refine (implPutCost_any _ _ _ _ _ _ _ _ _ Z _ Iz.out HLZ.out.1 HLZ.out.2.1 HLZ.out.2.2).mono ?_
          rintro e w20 ⟨rfl, hb⟩
          have Xk := Lib.hid (Xk.out.below hb Tk.out)
          have Tk := Lib.hid (Nat.lt_of_lt_of_le Tk.out hb.size)
          have Xy := Lib.hid (Xy.out.below hb Ty.out)
          have Ty := Lib.hid (Nat.lt_of_lt_of_le Ty.out hb.size)
          have Xz := Lib.hid (Xz.out.below hb Tz.out)
          have Tz := Lib.hid (Nat.lt_of_lt_of_le Tz.out hb.size)
          have Xt := Lib.hid (Xt.out.below hb Tt.out)
          have Tt := Lib.hid (Nat.lt_of_lt_of_le Tt.out hb.size)
          have Ik := Lib.hid (Ik.out.to_below hb)
          have Iy := Lib.hid (Iy.out.to_below hb)
          have Iz := Lib.hid (Iz.out.to_below hb)
          have HW := Lib.hid (HW.out.trans (hb.mono HW.out.size))
          clear hb
          rw [HPZ.out (by simp)]
          go_wp2
          go_ret
          exact ⟨rfl, HW.out⟩
      | true =>
        have HG := Lib.hid (show Co.get U = (K, true) by rw [HEU.out]; exact Co.get_put hok)
        have hlK := Co.ok_len hok
        have HLY := Lib.hid (show K.d.length ≤ 1048576 ∧ K.i.length ≤ 1048576 ∧ K.r.length ≤ 1048576 by omega)
        clear hlK
        have HOK := Lib.hid hok
        clear hok
        go_wp2_with fail
        refine (implGotC HU.out HG.out _).mono ?_
        rintro e w12 ⟨B0, B1, B2, d0, d1, d2, rfl, hin, hb⟩
        have Xk := Lib.hid (Xk.out.below hb Tk.out)
        have Tk := Lib.hid (Nat.lt_of_lt_of_le Tk.out hb.size)
        have Ik := Lib.hid (Ik.out.to_below hb)
        have HW := Lib.hid (HW.out.trans (hb.mono HW.out.size))
        clear hb
        have Iy := Lib.hid hin
        clear hin
        obtain ⟨sy, es⟩ : ∃ s, s = w12.heap.size := ⟨_, rfl⟩
        obtain ⟨w13, hwc⟩ : ∃ wc, wc = w12.alloc (.cells #[.slice B0 K.d.length d0, .slice B1 K.i.length d1, .slice B2 K.r.length d2] 35) := ⟨_, rfl⟩
        have hb : Below w12.heap.size w12 w13 := by rw [hwc]; exact (Below.refl _ _).alloc (Nat.le_refl _) _
        have Xk := Lib.hid (Xk.out.below hb Tk.out)
        have Tk := Lib.hid (Nat.lt_of_lt_of_le Tk.out hb.size)
        have Ik := Lib.hid (Ik.out.to_below hb)
        have Iy := Lib.hid (Iy.out.to_below hb)
        have HW := Lib.hid (HW.out.trans (hb.mono HW.out.size))
        clear hb
        have Xy := Lib.hid (show Box3 w13 sy (.slice B0 K.d.length d0) (.slice B1 K.i.length d1) (.slice B2 K.r.length d2) by rw [hwc, es]; exact Box3.made _ _ _ _ _)
        have Ty := Lib.hid (show sy < w13.heap.size by rw [hwc, es]; simp)
        go_wp2_with fail
        rw [← hwc]
        rw [← es]
        clear hwc es
        refine (drawGetCost_ex _ k (CodeIn.onto HC.out HW.out HW.out.size) hlen).mono ?_
        rintro e w14 ⟨V, rfl, hV, hb⟩
        have Xk := Lib.hid (Xk.out.below hb Tk.out)
        have Tk := Lib.hid (Nat.lt_of_lt_of_le Tk.out hb.size)
        have Xy := Lib.hid (Xy.out.below hb Ty.out)
        have Ty := Lib.hid (Nat.lt_of_lt_of_le Ty.out hb.size)
        have Ik := Lib.hid (Ik.out.to_below hb)
        have Iy := Lib.hid (Iy.out.to_below hb)
        have HW := Lib.hid (HW.out.trans (hb.mono HW.out.size))
        clear hb
        have HV := Lib.hid (show V.size ≤ maxLen from Nat.le_trans hV (by decide))
        clear hV
        rcases hz : Co.get V with ⟨Z, fine⟩
        have HZ := Lib.hid hz
        have HLZ := Lib.hid (show Z.d.length ≤ 1048576 ∧ Z.i.length ≤ 1048576 ∧ Z.r.length ≤ 1048576 by have := Co.get_len V; rw [hz] at this; simp only at this; omega)
        have HPZ := Lib.hid (show fine = true → Co.put Z = V by intro h; have := Co.get_ok (s := V) (by rw [hz]; exact h); rw [hz] at this; exact this)
        clear hz
        go_wp2_with fail
        refine (implGotC HV.out HZ.out _).mono ?_
        rintro e w15 ⟨E0, E1, E2, f0, f1, f2, rfl, hin, hb⟩
        have Xk := Lib.hid (Xk.out.below hb Tk.out)
        have Tk := Lib.hid (Nat.lt_of_lt_of_le Tk.out hb.size)
        have Xy := Lib.hid (Xy.out.below hb Ty.out)
        have Ty := Lib.hid (Nat.lt_of_lt_of_le Ty.out hb.size)
        have Ik := Lib.hid (Ik.out.to_below hb)
        have Iy := Lib.hid (Iy.out.to_below hb)
        have HW := Lib.hid (HW.out.trans (hb.mono HW.out.size))
        clear hb
        have Iz := Lib.hid hin
        clear hin
        obtain ⟨sz, es⟩ : ∃ s, s = w15.heap.size := ⟨_, rfl⟩
        obtain ⟨w16, hwc⟩ : ∃ wc, wc = w15.alloc (.cells #[.slice E0 Z.d.length f0, .slice E1 Z.i.length f1, .slice E2 Z.r.length f2] 35) := ⟨_, rfl⟩
        have hb : Below w15.heap.size w15 w16 := by rw [hwc]; exact (Below.refl _ _).alloc (Nat.le_refl _) _
        have Xk := Lib.hid (Xk.out.below hb Tk.out)
        have Tk := Lib.hid (Nat.lt_of_lt_of_le Tk.out hb.size)
        have Xy := Lib.hid (Xy.out.below hb Ty.out)
        have Ty := Lib.hid (Nat.lt_of_lt_of_le Ty.out hb.size)
        have Ik := Lib.hid (Ik.out.to_below hb)
        have Iy := Lib.hid (Iy.out.to_below hb)
        have Iz := Lib.hid (Iz.out.to_below hb)
        have HW := Lib.hid (HW.out.trans (hb.mono HW.out.size))
        clear hb
        have Xz := Lib.hid (show Box3 w16 sz (.slice E0 Z.d.length f0) (.slice E1 Z.i.length f1) (.slice E2 Z.r.length f2) by rw [hwc, es]; exact Box3.made _ _ _ _ _)
        have Tz := Lib.hid (show sz < w16.heap.size by rw [hwc, es]; simp)
        go_wp2_with fail
        rw [← hwc]
        rw [← es]
        clear hwc es
        refine (specGotC HV.out HZ.out _).mono ?_
        rintro e w17 ⟨J0, J1, J2, i0, i1, i2, rfl, hin, hb⟩
        have Xk := Lib.hid (Xk.out.below hb Tk.out)
        have Tk := Lib.hid (Nat.lt_of_lt_of_le Tk.out hb.size)
        have Xy := Lib.hid (Xy.out.below hb Ty.out)
        have Ty := Lib.hid (Nat.lt_of_lt_of_le Ty.out hb.size)
        have Xz := Lib.hid (Xz.out.below hb Tz.out)
        have Tz := Lib.hid (Nat.lt_of_lt_of_le Tz.out hb.size)
        have Ik := Lib.hid (Ik.out.to_below hb)
        have Iy := Lib.hid (Iy.out.to_below hb)
        have Iz := Lib.hid (Iz.out.to_below hb)
        have HW := Lib.hid (HW.out.trans (hb.mono HW.out.size))
        clear hb
        clear hin
        obtain ⟨st, es⟩ : ∃ s, s = w17.heap.size := ⟨_, rfl⟩
        obtain ⟨w18, hwc⟩ : ∃ wc, wc = w17.alloc (.cells #[.slice J0 Z.d.length i0, .slice J1 Z.i.length i1, .slice J2 Z.r.length i2] 35) := ⟨_, rfl⟩
        have hb : Below w17.heap.size w17 w18 := by rw [hwc]; exact (Below.refl _ _).alloc (Nat.le_refl _) _
        have Xk := Lib.hid (Xk.out.below hb Tk.out)
        have Tk := Lib.hid (Nat.lt_of_lt_of_le Tk.out hb.size)
        have Xy := Lib.hid (Xy.out.below hb Ty.out)
        have Ty := Lib.hid (Nat.lt_of_lt_of_le Ty.out hb.size)
        have Xz := Lib.hid (Xz.out.below hb Tz.out)
        have Tz := Lib.hid (Nat.lt_of_lt_of_le Tz.out hb.size)
        have Ik := Lib.hid (Ik.out.to_below hb)
        have Iy := Lib.hid (Iy.out.to_below hb)
        have Iz := Lib.hid (Iz.out.to_below hb)
        have HW := Lib.hid (HW.out.trans (hb.mono HW.out.size))
        clear hb
        have Xt := Lib.hid (show Box3 w18 st (.slice J0 Z.d.length i0) (.slice J1 Z.i.length i1) (.slice J2 Z.r.length i2) by rw [hwc, es]; exact Box3.made _ _ _ _ _)
        have Tt := Lib.hid (show st < w18.heap.size by rw [hwc, es]; simp)
        obtain ⟨gk0, gk1, gk2⟩ := Xk.out
        rw [hwc] at gk0 gk1 gk2
        go_wp2_with fail
        clear gk0 gk1 gk2
        rw [← hwc]
        rw [← es]
        clear hwc es
        refine (specCostOk_any _ _ _ _ _ _ _ _ _ K _ Ik.out (by decide) HN1.out (by decide)).mono ?_
        rintro e w19 ⟨rfl, hb⟩
        have Xk := Lib.hid (Xk.out.below hb Tk.out)
        have Tk := Lib.hid (Nat.lt_of_lt_of_le Tk.out hb.size)
        have Xy := Lib.hid (Xy.out.below hb Ty.out)
        have Ty := Lib.hid (Nat.lt_of_lt_of_le Ty.out hb.size)
        have Xz := Lib.hid (Xz.out.below hb Tz.out)
        have Tz := Lib.hid (Nat.lt_of_lt_of_le Tz.out hb.size)
        have Xt := Lib.hid (Xt.out.below hb Tt.out)
        have Tt := Lib.hid (Nat.lt_of_lt_of_le Tt.out hb.size)
        have Ik := Lib.hid (Ik.out.to_below hb)
        have Iy := Lib.hid (Iy.out.to_below hb)
        have Iz := Lib.hid (Iz.out.to_below hb)
        have HW := Lib.hid (HW.out.trans (hb.mono HW.out.size))
        clear hb
        rw [HOK.out]
        obtain ⟨gk0, gk1, gk2⟩ := Xk.out
        obtain ⟨gy0, gy1, gy2⟩ := Xy.out
        go_wp2_with fail
        clear gk0 gk1 gk2
        clear gy0 gy1 gy2
        refine (specSameCost_any _ _ _ _ _ _ _ _ _ _ _ _ _ _ _ _ _ _ K K _ Ik.out Iy.out (by decide) HN1.out (by decide) HLY.out.1 HLY.out.2.1 HLY.out.2.2).mono ?_
        rintro e w20 ⟨rfl, hb⟩
        have Xk := Lib.hid (Xk.out.below hb Tk.out)
        have Tk := Lib.hid (Nat.lt_of_lt_of_le Tk.out hb.size)
        have Xy := Lib.hid (Xy.out.below hb Ty.out)
        have Ty := Lib.hid (Nat.lt_of_lt_of_le Ty.out hb.size)
        have Xz := Lib.hid (Xz.out.below hb Tz.out)
        have Tz := Lib.hid (Nat.lt_of_lt_of_le Tz.out hb.size)
        have Xt := Lib.hid (Xt.out.below hb Tt.out)
        have Tt := Lib.hid (Nat.lt_of_lt_of_le Tt.out hb.size)
        have Ik := Lib.hid (Ik.out.to_below hb)
        have Iy := Lib.hid (Iy.out.to_below hb)
        have Iz := Lib.hid (Iz.out.to_below hb)
        have HW := Lib.hid (HW.out.trans (hb.mono HW.out.size))
        clear hb
        rw [Co.same_refl]
        obtain ⟨gk0, gk1, gk2⟩ := Xk.out
        obtain ⟨gy0, gy1, gy2⟩ := Xy.out
        go_wp2_with fail
        clear gk0 gk1 gk2
        clear gy0 gy1 gy2
        refine (implSameCost_any _ _ _ _ _ _ _ _ _ _ _ _ _ _ _ _ _ _ K K _ Ik.out Iy.out (by decide) HN1.out (by decide) HLY.out.1 HLY.out.2.1 HLY.out.2.2).mono ?_
        rintro e w21 ⟨rfl, hb⟩
        have Xk := Lib.hid (Xk.out.below hb Tk.out)
        have Tk := Lib.hid (Nat.lt_of_lt_of_le Tk.out hb.size)
        have Xy := Lib.hid (Xy.out.below hb Ty.out)
        have Ty := Lib.hid (Nat.lt_of_lt_of_le Ty.out hb.size)
        have Xz := Lib.hid (Xz.out.below hb Tz.out)
        have Tz := Lib.hid (Nat.lt_of_lt_of_le Tz.out hb.size)
        have Xt := Lib.hid (Xt.out.below hb Tt.out)
        have Tt := Lib.hid (Nat.lt_of_lt_of_le Tt.out hb.size)
        have Ik := Lib.hid (Ik.out.to_below hb)
        have Iy := Lib.hid (Iy.out.to_below hb)
        have Iz := Lib.hid (Iz.out.to_below hb)
        have HW := Lib.hid (HW.out.trans (hb.mono HW.out.size))
        clear hb
        rw [Co.same_refl]
        cases fine with
        | false =>
          go_wp2
          go_ret
          exact ⟨rfl, HW.out⟩
        | true =>
          obtain ⟨gz0, gz1, gz2⟩ := Xz.out
          go_wp2_with fail
          clear gz0 gz1 gz2
          refine (implPutCost_any _ _ _ _ _ _ _ _ _ Z _ Iz.out HLZ.out.1 HLZ.out.2.1 HLZ.out.2.2).mono ?_
          rintro e w22 ⟨rfl, hb⟩
          have Xk := Lib.hid (Xk.out.below hb Tk.out)
          have Tk := Lib.hid (Nat.lt_of_lt_of_le Tk.out hb.size)
          have Xy := Lib.hid (Xy.out.below hb Ty.out)
          have Ty := Lib.hid (Nat.lt_of_lt_of_le Ty.out hb.size)
          have Xz := Lib.hid (Xz.out.below hb Tz.out)
          have Tz := Lib.hid (Nat.lt_of_lt_of_le Tz.out hb.size)
          have Xt := Lib.hid (Xt.out.below hb Tt.out)
          have Tt := Lib.hid (Nat.lt_of_lt_of_le Tt.out hb.size)
          have Ik := Lib.hid (Ik.out.to_below hb)
          have Iy := Lib.hid (Iy.out.to_below hb)
          have Iz := Lib.hid (Iz.out.to_below hb)
          have HW := Lib.hid (HW.out.trans (hb.mono HW.out.size))
          clear hb
          rw [HPZ.out (by simp)]
          go_wp2
          go_ret
          exact ⟨rfl, HW.out⟩
  | true =>
    have HG1 := Lib.hid (show Tr.get S = (xs, 0) by rw [HES.out]; exact Tr.get_put hok)
    have hS : S.toList.isEmpty = false := by rw [HES.out, List.isEmpty_eq_false_iff]; exact Kit.not_nil (Tr.put_empty hok)
    have HOX := Lib.hid hok
    clear hok
    go_wp2_with fail
    refine (implGot HS.out HG1.out _).mono ?_
    rintro e w3 ⟨A2, c2, rfl, ho, hb⟩
    have Nx := Lib.hid (Nx.out.to_below hb)
    have HW := Lib.hid (HW.out.trans (hb.mono HW.out.size))
    clear hb
    have Nm := Lib.hid (NdIn.of_own ho)
    clear ho
    go_wp2_with fail
    refine (specTreeOk_any _ _ _ xs _ Nx.out hn20).mono ?_
    rintro e w4 ⟨rfl, hd⟩
    have hb : Below (World.heap w3).size w3 w4 := hd.toBelow
    clear hd
    have Nx := Lib.hid (Nx.out.to_below hb)
    have Nm := Lib.hid (Nm.out.to_below hb)
    have HW := Lib.hid (HW.out.trans (hb.mono HW.out.size))
    clear hb
    rw [HOX.out]
    go_wp2_with fail
    refine (specSameTree_any _ _ _ _ _ _ xs xs _ Nx.out hn20 Nm.out (by have := HLX.out; omega)).mono ?_
    rintro e w5 ⟨rfl, hd⟩
    have hb : Below (World.heap w4).size w4 w5 := hd.toBelow
    clear hd
    have Nx := Lib.hid (Nx.out.to_below hb)
    have Nm := Lib.hid (Nm.out.to_below hb)
    have HW := Lib.hid (HW.out.trans (hb.mono HW.out.size))
    clear hb
    rw [show decide (xs = xs) = true by simp]
    go_wp2_with fail
    refine (specTreeOk_any _ _ _ xs _ Nx.out hn20).mono ?_
    rintro e w6 ⟨rfl, hd⟩
    have hb : Below (World.heap w5).size w5 w6 := hd.toBelow
    clear hd
    have Nx := Lib.hid (Nx.out.to_below hb)
    have Nm := Lib.hid (Nm.out.to_below hb)
    have HW := Lib.hid (HW.out.trans (hb.mono HW.out.size))
    clear hb
    rw [HOX.out]
    go_wp2_with fail
    refine (drawGetTree_ex _ k (CodeIn.onto HC.out HW.out HW.out.size) hlen).mono ?_
    rintro e w7 ⟨T, rfl, hT, hb⟩
    have HW := Lib.hid (HW.out.trans (hb.mono HW.out.size))
    clear hb
    have HT2 := Lib.hid (show T.size ≤ maxLen from Nat.le_trans hT (by decide))
    clear hT
    rcases hg : Tr.get T with ⟨ys, d⟩
    have hgc := Tr.get_code T
    have hgl := Tr.get_len T
    have hgo := Tr.get_ok (s := T)
    rw [hg] at hgc hgl hgo
    simp only at hgc hgl hgo
    have HG := Lib.hid hg
    have HC0 := Lib.hid (TrCode.some hgc.1)
    clear hg
    by_cases d0 : d = 0
    · have HD0 := True.intro
      subst d0
      have HP := Lib.hid (hgo rfl)
      clear HD0 hgo hgc
      obtain ⟨C, eC⟩ : ∃ C, C = TrCode.name 0 := ⟨_, rfl⟩
      have hC : C.toList.isEmpty = false := by rw [eC, List.isEmpty_eq_false_iff]; exact HC0.out
      have HEC := Lib.hid eC
      clear eC
      go_wp2_with fail
      refine (implGot HT2.out HG.out _).mono ?_
      rintro e w8 ⟨A3, c3, rfl, ho, hb⟩
      have HW := Lib.hid (HW.out.trans (hb.mono HW.out.size))
      clear hb
      have Ny := Lib.hid (NdIn.of_own ho)
      have hcy := own_cap ho
      clear ho
      go_wp2_with fail
      refine (specGot HT2.out HG.out _).mono ?_
      rintro e w9 ⟨A4, c4, rfl, ho, hb⟩
      have Ny := Lib.hid (Ny.out.to_below hb)
      have HW := Lib.hid (HW.out.trans (hb.mono HW.out.size))
      clear hb
      clear ho
      go_wp2_with fail
      refine (implPutTree_any _ _ _ ys _ Ny.out (by omega) hcy).mono ?_
      rintro e w10 ⟨rfl, hb⟩
      have Ny := Lib.hid (Ny.out.to_below hb)
      have HW := Lib.hid (HW.out.trans (hb.mono HW.out.size))
      clear hb
      rw [HP.out]
      go_wp2_with fail
      have htw := HTC.out.below HW.out
      refine (implTreeCode_any 0 _ htw).mono ?_
      rintro e w' ⟨rfl, rfl⟩
      clear htw
      rw [← HEC.out]
      go_wp2_with fail
      refine (drawPutCost_ex _ k (CodeIn.onto HC.out HW.out HW.out.size) hlen).mono ?_
      rintro e w11 ⟨h0, h1, h2, c0, c2, A1, n1, q1, K, rfl, hn1, hin, hb⟩
      have HW := Lib.hid (HW.out.trans (hb.mono HW.out.size))
      clear hb
      have HN1 := Lib.hid (show n1 ≤ 1048576 by omega)
      have Ik := Lib.hid hin
      clear hin hn1
      obtain ⟨sk, es⟩ : ∃ s, s = w11.heap.size := ⟨_, rfl⟩
      obtain ⟨w12, hwc⟩ : ∃ wc, wc = w11.alloc (.cells #[.slice (some ⟨h0, 0, none⟩) 6 c0, .slice A1 n1 q1, .slice (some ⟨h2, 0, none⟩) 36 c2] 35) := ⟨_, rfl⟩
      have hb : Below w11.heap.size w11 w12 := by rw [hwc]; exact (Below.refl _ _).alloc (Nat.le_refl _) _
      have Ik := Lib.hid (Ik.out.to_below hb)
      have HW := Lib.hid (HW.out.trans (hb.mono HW.out.size))
      clear hb
      have Xk := Lib.hid (show Box3 w12 sk (.slice (some ⟨h0, 0, none⟩) 6 c0) (.slice A1 n1 q1) (.slice (some ⟨h2, 0, none⟩) 36 c2) by rw [hwc, es]; exact Box3.made _ _ _ _ _)
      have Tk := Lib.hid (show sk < w12.heap.size by rw [hwc, es]; simp)
      obtain ⟨U, eU⟩ : ∃ U, U = Co.put K := ⟨_, rfl⟩
      have HU := Lib.hid (show U.size ≤ maxLen by rw [eU]; exact Nat.le_trans (Co.put_size K) (by decide))
      have HEU := Lib.hid eU
      clear eU
      obtain ⟨gk0, gk1, gk2⟩ := Xk.out
      rw [es] at gk0 gk1 gk2
      rw [hwc] at gk0 gk1 gk2
      go_wp2_with fail
      clear gk0 gk1 gk2
      rw [← hwc]
      rw [← es]
      clear hwc es
      refine (implPutCost_any _ _ _ _ _ _ _ _ _ K _ Ik.out (by decide) HN1.out (by decide)).mono ?_
      rintro e w13 ⟨rfl, hb⟩
      have Xk := Lib.hid (Xk.out.below hb Tk.out)
      have Tk := Lib.hid (Nat.lt_of_lt_of_le Tk.out hb.size)
      have Ik := Lib.hid (Ik.out.to_below hb)
      have HW := Lib.hid (HW.out.trans (hb.mono HW.out.size))
      clear hb
      rw [← HEU.out]
      cases hok : Co.ok K with
      | false =>
        obtain rfl : U = ⟨#[]⟩ := by rw [HEU.out]; exact Co.put_no hok
        have HG := Lib.hid Co.get_none
        have HLY := Lib.hid (show Co.none.d.length ≤ 1048576 ∧ Co.none.i.length ≤ 1048576 ∧ Co.none.r.length ≤ 1048576 from ⟨by decide, by decide, by decide⟩)
        have HOK := Lib.hid hok
        clear hok
        go_wp2_with fail
        refine (implGotC HU.out HG.out _).mono ?_
        rintro e w14 ⟨B0, B1, B2, d0, d1, d2, rfl, hin, hb⟩
        have Xk := Lib.hid (Xk.out.below hb Tk.out)
        have Tk := Lib.hid (Nat.lt_of_lt_of_le Tk.out hb.size)
        have Ik := Lib.hid (Ik.out.to_below hb)
        have HW := Lib.hid (HW.out.trans (hb.mono HW.out.size))
        clear hb
        have Iy := Lib.hid hin
        clear hin
        obtain ⟨sy, es⟩ : ∃ s, s = w14.heap.size := ⟨_, rfl⟩
        obtain ⟨w15, hwc⟩ : ∃ wc, wc = w14.alloc (.cells #[.slice B0 Co.none.d.length d0, .slice B1 Co.none.i.length d1, .slice B2 Co.none.r.length d2] 35) := ⟨_, rfl⟩
        have hb : Below w14.heap.size w14 w15 := by rw [hwc]; exact (Below.refl _ _).alloc (Nat.le_refl _) _
        have Xk := Lib.hid (Xk.out.below hb Tk.out)
        have Tk := Lib.hid (Nat.lt_of_lt_of_le Tk.out hb.size)
        have Ik := Lib.hid (Ik.out.to_below hb)
        have Iy := Lib.hid (Iy.out.to_below hb)
        have HW := Lib.hid (HW.out.trans (hb.mono HW.out.size))
        clear hb
        have Xy := Lib.hid (show Box3 w15 sy (.slice B0 Co.none.d.length d0) (.slice B1 Co.none.i.length d1) (.slice B2 Co.none.r.length d2) by rw [hwc, es]; exact Box3.made _ _ _ _ _)
        have Ty := Lib.hid (show sy < w15.heap.size by rw [hwc, es]; simp)
        go_wp2_with fail
        rw [← hwc]
        rw [← es]
        clear hwc es
        refine (drawGetCost_ex _ k (CodeIn.onto HC.out HW.out HW.out.size) hlen).mono ?_
        rintro e w16 ⟨V, rfl, hV, hb⟩
        have Xk := Lib.hid (Xk.out.below hb Tk.out)
        have Tk := Lib.hid (Nat.lt_of_lt_of_le Tk.out hb.size)
        have Xy := Lib.hid (Xy.out.below hb Ty.out)
        have Ty := Lib.hid (Nat.lt_of_lt_of_le Ty.out hb.size)
        have Ik := Lib.hid (Ik.out.to_below hb)
        have Iy := Lib.hid (Iy.out.to_below hb)
        have HW := Lib.hid (HW.out.trans (hb.mono HW.out.size))
        clear hb
        have HV := Lib.hid (show V.size ≤ maxLen from Nat.le_trans hV (by decide))
        clear hV
        rcases hz : Co.get V with ⟨Z, fine⟩
        have HZ := Lib.hid hz
        have HLZ := Lib.hid (show Z.d.length ≤ 1048576 ∧ Z.i.length ≤ 1048576 ∧ Z.r.length ≤ 1048576 by have := Co.get_len V; rw [hz] at this; simp only at this; omega)
        have HPZ := Lib.hid (show fine = true → Co.put Z = V by intro h; have := Co.get_ok (s := V) (by rw [hz]; exact h); rw [hz] at this; exact this)
        clear hz
        go_wp2_with fail
        refine (implGotC HV.out HZ.out _).mono ?_
        rintro e w17 ⟨E0, E1, E2, f0, f1, f2, rfl, hin, hb⟩
        have Xk := Lib.hid (Xk.out.below hb Tk.out)
        have Tk := Lib.hid (Nat.lt_of_lt_of_le Tk.out hb.size)
        have Xy := Lib.hid (Xy.out.below hb Ty.out)
        have Ty := Lib.hid (Nat.lt_of_lt_of_le Ty.out hb.size)
        have Ik := Lib.hid (Ik.out.to_below hb)
        have Iy := Lib.hid (Iy.out.to_below hb)
        have HW := Lib.hid (HW.out.trans (hb.mono HW.out.size))
        clear hb
        have Iz := Lib.hid hin
        clear hin
        obtain ⟨sz, es⟩ : ∃ s, s = w17.heap.size := ⟨_, rfl⟩
        obtain ⟨w18, hwc⟩ : ∃ wc, wc = w17.alloc (.cells #[.slice E0 Z.d.length f0, .slice E1 Z.i.length f1, .slice E2 Z.r.length f2] 35) := ⟨_, rfl⟩
        have hb : Below w17.heap.size w17 w18 := by rw [hwc]; exact (Below.refl _ _).alloc (Nat.le_refl _) _
        have Xk := Lib.hid (Xk.out.below hb Tk.out)
        have Tk := Lib.hid (Nat.lt_of_lt_of_le Tk.out hb.size)
        have Xy := Lib.hid (Xy.out.below hb Ty.out)
        have Ty := Lib.hid (Nat.lt_of_lt_of_le Ty.out hb.size)
        have Ik := Lib.hid (Ik.out.to_below hb)
        have Iy := Lib.hid (Iy.out.to_below hb)
        have Iz := Lib.hid (Iz.out.to_below hb)
        have HW := Lib.hid (HW.out.trans (hb.mono HW.out.size))
        clear hb
        have Xz := Lib.hid (show Box3 w18 sz (.slice E0 Z.d.length f0) (.slice E1 Z.i.length f1) (.slice E2 Z.r.length f2) by rw [hwc, es]; exact Box3.made _ _ _ _ _)
        have Tz := Lib.hid (show sz < w18.heap.size by rw [hwc, es]; simp)
        go_wp2_with fail
        rw [← hwc]
        rw [← es]
        clear hwc es
        refine (specGotC HV.out HZ.out _).mono ?_
        rintro e w19 ⟨J0, J1, J2, i0, i1, i2, rfl, hin, hb⟩
        have Xk := Lib.hid (Xk.out.below hb Tk.out)
        have Tk := Lib.hid (Nat.lt_of_lt_of_le Tk.out hb.size)
        have Xy := Lib.hid (Xy.out.below hb Ty.out)
        have Ty := Lib.hid (Nat.lt_of_lt_of_le Ty.out hb.size)
        have Xz := Lib.hid (Xz.out.below hb Tz.out)
        have Tz := Lib.hid (Nat.lt_of_lt_of_le Tz.out hb.size)
        have Ik := Lib.hid (Ik.out.to_below hb)
        have Iy := Lib.hid (Iy.out.to_below hb)
        have Iz := Lib.hid (Iz.out.to_below hb)
        have HW := Lib.hid (HW.out.trans (hb.mono HW.out.size))
        clear hb
        clear hin
        obtain ⟨st, es⟩ : ∃ s, s = w19.heap.size := ⟨_, rfl⟩
        obtain ⟨w20, hwc⟩ : ∃ wc, wc = w19.alloc (.cells #[.slice J0 Z.d.length i0, .slice J1 Z.i.length i1, .slice J2 Z.r.length i2] 35) := ⟨_, rfl⟩
        have hb : Below w19.heap.size w19 w20 := by rw [hwc]; exact (Below.refl _ _).alloc (Nat.le_refl _) _
        have Xk := Lib.hid (Xk.out.below hb Tk.out)
        have Tk := Lib.hid (Nat.lt_of_lt_of_le Tk.out hb.size)
        have Xy := Lib.hid (Xy.out.below hb Ty.out)
        have Ty := Lib.hid (Nat.lt_of_lt_of_le Ty.out hb.size)
        have Xz := Lib.hid (Xz.out.below hb Tz.out)
        have Tz := Lib.hid (Nat.lt_of_lt_of_le Tz.out hb.size)
        have Ik := Lib.hid (Ik.out.to_below hb)
        have Iy := Lib.hid (Iy.out.to_below hb)
        have Iz := Lib.hid (Iz.out.to_below hb)
        have HW := Lib.hid (HW.out.trans (hb.mono HW.out.size))
        clear hb
        have Xt := Lib.hid (show Box3 w20 st (.slice J0 Z.d.length i0) (.slice J1 Z.i.length i1) (.slice J2 Z.r.length i2) by rw [hwc, es]; exact Box3.made _ _ _ _ _)
        have Tt := Lib.hid (show st < w20.heap.size by rw [hwc, es]; simp)
        obtain ⟨gk0, gk1, gk2⟩ := Xk.out
        rw [hwc] at gk0 gk1 gk2
        go_wp2_with fail
        clear gk0 gk1 gk2
        rw [← hwc]
        rw [← es]
        clear hwc es
        refine (specCostOk_any _ _ _ _ _ _ _ _ _ K _ Ik.out (by decide) HN1.out (by decide)).mono ?_
        rintro e w21 ⟨rfl, hb⟩
        have Xk := Lib.hid (Xk.out.below hb Tk.out)
        have Tk := Lib.hid (Nat.lt_of_lt_of_le Tk.out hb.size)
        have Xy := Lib.hid (Xy.out.below hb Ty.out)
        have Ty := Lib.hid (Nat.lt_of_lt_of_le Ty.out hb.size)
        have Xz := Lib.hid (Xz.out.below hb Tz.out)
        have Tz := Lib.hid (Nat.lt_of_lt_of_le Tz.out hb.size)
        have Xt := Lib.hid (Xt.out.below hb Tt.out)
        have Tt := Lib.hid (Nat.lt_of_lt_of_le Tt.out hb.size)
        have Ik := Lib.hid (Ik.out.to_below hb)
        have Iy := Lib.hid (Iy.out.to_below hb)
        have Iz := Lib.hid (Iz.out.to_below hb)
        have HW := Lib.hid (HW.out.trans (hb.mono HW.out.size))
        clear hb
        rw [HOK.out]
        cases fine with
        | false =>
          go_wp2
          go_ret
          exact ⟨rfl, HW.out⟩
        | true =>
          obtain ⟨gz0, gz1, gz2⟩ := Xz.out
          go_wp2_with fail
          clear gz0 gz1 gz2
          refine (implPutCost_any _ _ _ _ _ _ _ _ _ Z _ Iz.out HLZ.out.1 HLZ.out.2.1 HLZ.out.2.2).mono ?_
          rintro e w22 ⟨rfl, hb⟩
          have Xk := Lib.hid (Xk.out.below hb Tk.out)
          have Tk := Lib.hid (Nat.lt_of_lt_of_le Tk.out hb.size)
          have Xy := Lib.hid (Xy.out.below hb Ty.out)
          have Ty := Lib.hid (Nat.lt_of_lt_of_le Ty.out hb.size)
          have Xz := Lib.hid (Xz.out.below hb Tz.out)
          have Tz := Lib.hid (Nat.lt_of_lt_of_le Tz.out hb.size)
          have Xt := Lib.hid (Xt.out.below hb Tt.out)
          have Tt := Lib.hid (Nat.lt_of_lt_of_le Tt.out hb.size)
          have Ik := Lib.hid (Ik.out.to_below hb)
          have Iy := Lib.hid (Iy.out.to_below hb)
          have Iz := Lib.hid (Iz.out.to_below hb)
          have HW := Lib.hid (HW.out.trans (hb.mono HW.out.size))
          clear hb
          rw [HPZ.out (by simp)]
          go_wp2
          go_ret
          exact ⟨rfl, HW.out⟩
      | true =>
        have HG := Lib.hid (show Co.get U = (K, true) by rw [HEU.out]; exact Co.get_put hok)
        have hlK := Co.ok_len hok
        have HLY := Lib.hid (show K.d.length ≤ 1048576 ∧ K.i.length ≤ 1048576 ∧ K.r.length ≤ 1048576 by omega)
        clear hlK
        have HOK := Lib.hid hok
        clear hok
        go_wp2_with fail
        refine (implGotC HU.out HG.out _).mono ?_
        rintro e w14 ⟨B0, B1, B2, d0, d1, d2, rfl, hin, hb⟩
        have Xk := Lib.hid (Xk.out.below hb Tk.out)
        have Tk := Lib.hid (Nat.lt_of_lt_of_le Tk.out hb.size)
        have Ik := Lib.hid (Ik.out.to_below hb)
        have HW := Lib.hid (HW.out.trans (hb.mono HW.out.size))
        clear hb
        have Iy := Lib.hid hin
        clear hin
        obtain ⟨sy, es⟩ : ∃ s, s = w14.heap.size := ⟨_, rfl⟩
        obtain ⟨w15, hwc⟩ : ∃ wc, wc = w14.alloc (.cells #[.slice B0 K.d.length d0, .slice B1 K.i.length d1, .slice B2 K.r.length d2] 35) := ⟨_, rfl⟩
        have hb : Below w14.heap.size w14 w15 := by rw [hwc]; exact (Below.refl _ _).alloc (Nat.le_refl _) _
        have Xk := Lib.hid (Xk.out.below hb Tk.out)
        have Tk := Lib.hid (Nat.lt_of_lt_of_le Tk.out hb.size)
        have Ik := Lib.hid (Ik.out.to_below hb)
        have Iy := Lib.hid (Iy.out.to_below hb)
        have HW := Lib.hid (HW.out.trans (hb.mono HW.out.size))
        clear hb
        have Xy := Lib.hid (show Box3 w15 sy (.slice B0 K.d.length d0) (.slice B1 K.i.length d1) (.slice B2 K.r.length d2) by rw [hwc, es]; exact Box3.made _ _ _ _ _)
        have Ty := Lib.hid (show sy < w15.heap.size by rw [hwc, es]; simp)
        go_wp2_with fail
        rw [← hwc]
        rw [← es]
        clear hwc es
        refine (drawGetCost_ex _ k (CodeIn.onto HC.out HW.out HW.out.size) hlen).mono ?_
        rintro e w16 ⟨V, rfl, hV, hb⟩
        have Xk := Lib.hid (Xk.out.below hb Tk.out)
        have Tk := Lib.hid (Nat.lt_of_lt_of_le Tk.out hb.size)
        have Xy := Lib.hid (Xy.out.below hb Ty.out)
        have Ty := Lib.hid (Nat.lt_of_lt_of_le Ty.out hb.size)
        have Ik := Lib.hid (Ik.out.to_below hb)
        have Iy := Lib.hid (Iy.out.to_below hb)
        have HW := Lib.hid (HW.out.trans (hb.mono HW.out.size))
        clear hb
        have HV := Lib.hid (show V.size ≤ maxLen from Nat.le_trans hV (by decide))
        clear hV
        rcases hz : Co.get V with ⟨Z, fine⟩
        have HZ := Lib.hid hz
        have HLZ := Lib.hid (show Z.d.length ≤ 1048576 ∧ Z.i.length ≤ 1048576 ∧ Z.r.length ≤ 1048576 by have := Co.get_len V; rw [hz] at this; simp only at this; omega)
        have HPZ := Lib.hid (show fine = true → Co.put Z = V by intro h; have := Co.get_ok (s := V) (by rw [hz]; exact h); rw [hz] at this; exact this)
        clear hz
        go_wp2_with fail
        refine (implGotC HV.out HZ.out _).mono ?_
        rintro e w17 ⟨E0, E1, E2, f0, f1, f2, rfl, hin, hb⟩
        have Xk := Lib.hid (Xk.out.below hb Tk.out)
        have Tk := Lib.hid (Nat.lt_of_lt_of_le Tk.out hb.size)
        have Xy := Lib.hid (Xy.out.below hb Ty.out)
        have Ty := Lib.hid (Nat.lt_of_lt_of_le Ty.out hb.size)
        have Ik := Lib.hid (Ik.out.to_below hb)
        have Iy := Lib.hid (Iy.out.to_below hb)
        have HW := Lib.hid (HW.out.trans (hb.mono HW.out.size))
        clear hb
        have Iz := Lib.hid hin
        clear hin
        obtain ⟨sz, es⟩ : ∃ s, s = w17.heap.size := ⟨_, rfl⟩
        obtain ⟨w18, hwc⟩ : ∃ wc, wc = w17.alloc (.cells #[.slice E0 Z.d.length f0, .slice E1 Z.i.length f1, .slice E2 Z.r.length f2] 35) := ⟨_, rfl⟩
        have hb : Below w17.heap.size w17 w18 := by rw [hwc]; exact (Below.refl _ _).alloc (Nat.le_refl _) _
        have Xk := Lib.hid (Xk.out.below hb Tk.out)
        have Tk := Lib.hid (Nat.lt_of_lt_of_le Tk.out hb.size)
        have Xy := Lib.hid (Xy.out.below hb Ty.out)
        have Ty := Lib.hid (Nat.lt_of_lt_of_le Ty.out hb.size)
        have Ik := Lib.hid (Ik.out.to_below hb)
        have Iy := Lib.hid (Iy.out.to_below hb)
        have Iz := Lib.hid (Iz.out.to_below hb)
        have HW := Lib.hid (HW.out.trans (hb.mono HW.out.size))
        clear hb
        have Xz := Lib.hid (show Box3 w18 sz (.slice E0 Z.d.length f0) (.slice E1 Z.i.length f1) (.slice E2 Z.r.length f2) by rw [hwc, es]; exact Box3.made _ _ _ _ _)
        have Tz := Lib.hid (show sz < w18.heap.size by rw [hwc, es]; simp)
        go_wp2_with fail
        rw [← hwc]
        rw [← es]
        clear hwc es
        refine (specGotC HV.out HZ.out _).mono ?_
        rintro e w19 ⟨J0, J1, J2, i0, i1, i2, rfl, hin, hb⟩
        have Xk := Lib.hid (Xk.out.below hb Tk.out)
        have Tk := Lib.hid (Nat.lt_of_lt_of_le Tk.out hb.size)
        have Xy := Lib.hid (Xy.out.below hb Ty.out)
        have Ty := Lib.hid (Nat.lt_of_lt_of_le Ty.out hb.size)
        have Xz := Lib.hid (Xz.out.below hb Tz.out)
        have Tz := Lib.hid (Nat.lt_of_lt_of_le Tz.out hb.size)
        have Ik := Lib.hid (Ik.out.to_below hb)
        have Iy := Lib.hid (Iy.out.to_below hb)
        have Iz := Lib.hid (Iz.out.to_below hb)
        have HW := Lib.hid (HW.out.trans (hb.mono HW.out.size))
        clear hb
        clear hin
        obtain ⟨st, es⟩ : ∃ s, s = w19.heap.size := ⟨_, rfl⟩
        obtain ⟨w20, hwc⟩ : ∃ wc, wc = w19.alloc (.cells #[.slice J0 Z.d.length i0, .slice J1 Z.i.length i1, .slice J2 Z.r.length i2] 35) := ⟨_, rfl⟩
        have hb : Below w19.heap.size w19 w20 := by rw [hwc]; exact (Below.refl _ _).alloc (Nat.le_refl _) _
        have Xk := Lib.hid (Xk.out.below hb Tk.out)
        have Tk := Lib.hid (Nat.lt_of_lt_of_le Tk.out hb.size)
        have Xy := Lib.hid (Xy.out.below hb Ty.out)
        have Ty := Lib.hid (Nat.lt_of_lt_of_le Ty.out hb.size)
        have Xz := Lib.hid (Xz.out.below hb Tz.out)
        have Tz := Lib.hid (Nat.lt_of_lt_of_le Tz.out hb.size)
        have Ik := Lib.hid (Ik.out.to_below hb)
        have Iy := Lib.hid (Iy.out.to_below hb)
        have Iz := Lib.hid (Iz.out.to_below hb)
        have HW := Lib.hid (HW.out.trans (hb.mono HW.out.size))
        clear hb
        have Xt := Lib.hid (show Box3 w20 st (.slice J0 Z.d.length i0) (.slice J1 Z.i.length i1) (.slice J2 Z.r.length i2) by rw [hwc, es]; exact Box3.made _ _ _ _ _)
        have Tt := Lib.hid (show st < w20.heap.size by rw [hwc, es]; simp)
        obtain ⟨gk0, gk1, gk2⟩ := Xk.out
        rw [hwc] at gk0 gk1 gk2
        go_wp2_with fail
        clear gk0 gk1 gk2
        rw [← hwc]
        rw [← es]
        clear hwc es
        refine (specCostOk_any _ _ _ _ _ _ _ _ _ K _ Ik.out (by decide) HN1.out (by decide)).mono ?_
        rintro e w21 ⟨rfl, hb⟩
        have Xk := Lib.hid (Xk.out.below hb Tk.out)
        have Tk := Lib.hid (Nat.lt_of_lt_of_le Tk.out hb.size)
        have Xy := Lib.hid (Xy.out.below hb Ty.out)
        have Ty := Lib.hid (Nat.lt_of_lt_of_le Ty.out hb.size)
        have Xz := Lib.hid (Xz.out.below hb Tz.out)
        have Tz := Lib.hid (Nat.lt_of_lt_of_le Tz.out hb.size)
        have Xt := Lib.hid (Xt.out.below hb Tt.out)
        have Tt := Lib.hid (Nat.lt_of_lt_of_le Tt.out hb.size)
        have Ik := Lib.hid (Ik.out.to_below hb)
        have Iy := Lib.hid (Iy.out.to_below hb)
        have Iz := Lib.hid (Iz.out.to_below hb)
        have HW := Lib.hid (HW.out.trans (hb.mono HW.out.size))
        clear hb
        rw [HOK.out]
        obtain ⟨gk0, gk1, gk2⟩ := Xk.out
        obtain ⟨gy0, gy1, gy2⟩ := Xy.out
        go_wp2_with fail
        clear gk0 gk1 gk2
        clear gy0 gy1 gy2
        refine (specSameCost_any _ _ _ _ _ _ _ _ _ _ _ _ _ _ _ _ _ _ K K _ Ik.out Iy.out (by decide) HN1.out (by decide) HLY.out.1 HLY.out.2.1 HLY.out.2.2).mono ?_
        rintro e w22 ⟨rfl, hb⟩
        have Xk := Lib.hid (Xk.out.below hb Tk.out)
        have Tk := Lib.hid (Nat.lt_of_lt_of_le Tk.out hb.size)
        have Xy := Lib.hid (Xy.out.below hb Ty.out)
        have Ty := Lib.hid (Nat.lt_of_lt_of_le Ty.out hb.size)
        have Xz := Lib.hid (Xz.out.below hb Tz.out)
        have Tz := Lib.hid (Nat.lt_of_lt_of_le Tz.out hb.size)
        have Xt := Lib.hid (Xt.out.below hb Tt.out)
        have Tt := Lib.hid (Nat.lt_of_lt_of_le Tt.out hb.size)
        have Ik := Lib.hid (Ik.out.to_below hb)
        have Iy := Lib.hid (Iy.out.to_below hb)
        have Iz := Lib.hid (Iz.out.to_below hb)
        have HW := Lib.hid (HW.out.trans (hb.mono HW.out.size))
        clear hb
        rw [Co.same_refl]
        obtain ⟨gk0, gk1, gk2⟩ := Xk.out
        obtain ⟨gy0, gy1, gy2⟩ := Xy.out
        go_wp2_with fail
        clear gk0 gk1 gk2
        clear gy0 gy1 gy2
        refine (implSameCost_any _ _ _ _ _ _ _ _ _ _ _ _ _ _ _ _ _ _ K K _ Ik.out Iy.out (by decide) HN1.out (by decide) HLY.out.1 HLY.out.2.1 HLY.out.2.2).mono ?_
        rintro e w23 ⟨rfl, hb⟩
        have Xk := Lib.hid (Xk.out.below hb Tk.out)
        have Tk := Lib.hid (Nat.lt_of_lt_of_le Tk.out hb.size)
        have Xy := Lib.hid (Xy.out.below hb Ty.out)
        have Ty := Lib.hid (Nat.lt_of_lt_of_le Ty.out hb.size)
        have Xz := Lib.hid (Xz.out.below hb Tz.out)
        have Tz := Lib.hid (Nat.lt_of_lt_of_le Tz.out hb.size)
        have Xt := Lib.hid (Xt.out.below hb Tt.out)
        have Tt := Lib.hid (Nat.lt_of_lt_of_le Tt.out hb.size)
        have Ik := Lib.hid (Ik.out.to_below hb)
        have Iy := Lib.hid (Iy.out.to_below hb)
        have Iz := Lib.hid (Iz.out.to_below hb)
        have HW := Lib.hid (HW.out.trans (hb.mono HW.out.size))
        clear hb
        rw [Co.same_refl]
        cases fine with
        | false =>
          go_wp2
          go_ret
          exact ⟨rfl, HW.out⟩
        | true =>
          obtain ⟨gz0, gz1, gz2⟩ := Xz.out
          go_wp2_with fail
          clear gz0 gz1 gz2
          refine (implPutCost_any _ _ _ _ _ _ _ _ _ Z _ Iz.out HLZ.out.1 HLZ.out.2.1 HLZ.out.2.2).mono ?_
          rintro e w24 ⟨rfl, hb⟩
          have Xk := Lib.hid (Xk.out.below hb Tk.out)
          have Tk := Lib.hid (Nat.lt_of_lt_of_le Tk.out hb.size)
          have Xy := Lib.hid (Xy.out.below hb Ty.out)
          have Ty := Lib.hid (Nat.lt_of_lt_of_le Ty.out hb.size)
          have Xz := Lib.hid (Xz.out.below hb Tz.out)
          have Tz := Lib.hid (Nat.lt_of_lt_of_le Tz.out hb.size)
          have Xt := Lib.hid (Xt.out.below hb Tt.out)
          have Tt := Lib.hid (Nat.lt_of_lt_of_le Tt.out hb.size)
          have Ik := Lib.hid (Ik.out.to_below hb)
          have Iy := Lib.hid (Iy.out.to_below hb)
          have Iz := Lib.hid (Iz.out.to_below hb)
          have HW := Lib.hid (HW.out.trans (hb.mono HW.out.size))
          clear hb
          rw [HPZ.out (by simp)]
          go_wp2
          go_ret
          exact ⟨rfl, HW.out⟩
    · have HD0 := True.intro
      obtain rfl : ys = [] := hgc.2 d0
      have e1 : (d == 0) = false := by simpa using d0
      have e2 : (d != 0) = true := by simpa using d0
      clear HD0 hgo hgc d0
      obtain ⟨C, eC⟩ : ∃ C, C = TrCode.name d := ⟨_, rfl⟩
      have hC : C.toList.isEmpty = false := by rw [eC, List.isEmpty_eq_false_iff]; exact HC0.out
      have HEC := Lib.hid eC
      clear eC
      go_wp2_with fail
      refine (implGot HT2.out HG.out _).mono ?_
      rintro e w8 ⟨A3, c3, rfl, ho, hb⟩
      have HW := Lib.hid (HW.out.trans (hb.mono HW.out.size))
      clear hb
      clear ho
      go_wp2_with fail
      refine (specGot HT2.out HG.out _).mono ?_
      rintro e w9 ⟨A4, c4, rfl, ho, hb⟩
      have HW := Lib.hid (HW.out.trans (hb.mono HW.out.size))
      clear hb
      clear ho
      go_wp2_with fail
      have htw := HTC.out.below HW.out
      refine (implTreeCode_any d _ htw).mono ?_
      rintro e w' ⟨rfl, rfl⟩
      clear htw
      rw [← HEC.out]
      go_wp2_with fail
      refine (drawPutCost_ex _ k (CodeIn.onto HC.out HW.out HW.out.size) hlen).mono ?_
      rintro e w10 ⟨h0, h1, h2, c0, c2, A1, n1, q1, K, rfl, hn1, hin, hb⟩
      have HW := Lib.hid (HW.out.trans (hb.mono HW.out.size))
      clear hb
      have HN1 := Lib.hid (show n1 ≤ 1048576 by omega)
      have Ik := Lib.hid hin
      clear hin hn1
      obtain ⟨sk, es⟩ : ∃ s, s = w10.heap.size := ⟨_, rfl⟩
      obtain ⟨w11, hwc⟩ : ∃ wc, wc = w10.alloc (.cells #[.slice (some ⟨h0, 0, none⟩) 6 c0, .slice A1 n1 q1, .slice (some ⟨h2, 0, none⟩) 36 c2] 35) := ⟨_, rfl⟩
      have hb : Below w10.heap.size w10 w11 := by rw [hwc]; exact (Below.refl _ _).alloc (Nat.le_refl _) _
      have Ik := Lib.hid (Ik.out.to_below hb)
      have HW := Lib.hid (HW.out.trans (hb.mono HW.out.size))
      clear hb
      have Xk := Lib.hid (show Box3 w11 sk (.slice (some ⟨h0, 0, none⟩) 6 c0) (.slice A1 n1 q1) (.slice (some ⟨h2, 0, none⟩) 36 c2) by rw [hwc, es]; exact Box3.made _ _ _ _ _)
      have Tk := Lib.hid (show sk < w11.heap.size by rw [hwc, es]; simp)
      obtain ⟨U, eU⟩ : ∃ U, U = Co.put K := ⟨_, rfl⟩
      have HU := Lib.hid (show U.size ≤ maxLen by rw [eU]; exact Nat.le_trans (Co.put_size K) (by decide))
      have HEU := Lib.hid eU
      clear eU
      obtain ⟨gk0, gk1, gk2⟩ := Xk.out
      rw [es] at gk0 gk1 gk2
      rw [hwc] at gk0 gk1 gk2
      go_wp2_with fail
      clear gk0 gk1 gk2
      rw [← hwc]
      rw [← es]
      clear hwc es
      refine (implPutCost_any _ _ _ _ _ _ _ _ _ K _ Ik.out (by decide) HN1.out (by decide)).mono ?_
      rintro e w12 ⟨rfl, hb⟩
      have Xk := Lib.hid (Xk.out.below hb Tk.out)
      have Tk := Lib.hid (Nat.lt_of_lt_of_le Tk.out hb.size)
      have Ik := Lib.hid (Ik.out.to_below hb)
      have HW := Lib.hid (HW.out.trans (hb.mono HW.out.size))
      clear hb
      rw [← HEU.out]
      cases hok : Co.ok K with
      | false =>
        obtain rfl : U = ⟨#[]⟩ := by rw [HEU.out]; exact Co.put_no hok
        have HG := Lib.hid Co.get_none
        have HLY := Lib.hid (show Co.none.d.length ≤ 1048576 ∧ Co.none.i.length ≤ 1048576 ∧ Co.none.r.length ≤ 1048576 from ⟨by decide, by decide, by decide⟩)
        have HOK := Lib.hid hok
        clear hok
        go_wp2_with fail
        refine (implGotC HU.out HG.out _).mono ?_
        rintro e w13 ⟨B0, B1, B2, d0, d1, d2, rfl, hin, hb⟩
        have Xk := Lib.hid (Xk.out.below hb Tk.out)
        have Tk := Lib.hid (Nat.lt_of_lt_of_le Tk.out hb.size)
        have Ik := Lib.hid (Ik.out.to_below hb)
        have HW := Lib.hid (HW.out.trans (hb.mono HW.out.size))
        clear hb
        have Iy := Lib.hid hin
        clear hin
        obtain ⟨sy, es⟩ : ∃ s, s = w13.heap.size := ⟨_, rfl⟩
        obtain ⟨w14, hwc⟩ : ∃ wc, wc = w13.alloc (.cells #[.slice B0 Co.none.d.length d0, .slice B1 Co.none.i.length d1, .slice B2 Co.none.r.length d2] 35) := ⟨_, rfl⟩
        have hb : Below w13.heap.size w13 w14 := by rw [hwc]; exact (Below.refl _ _).alloc (Nat.le_refl _) _
        have Xk := Lib.hid (Xk.out.below hb Tk.out)
        have Tk := Lib.hid (Nat.lt_of_lt_of_le Tk.out hb.size)
        have Ik := Lib.hid (Ik.out.to_below hb)
        have Iy := Lib.hid (Iy.out.to_below hb)
        have HW := Lib.hid (HW.out.trans (hb.mono HW.out.size))
        clear hb
        have Xy := Lib.hid (show Box3 w14 sy (.slice B0 Co.none.d.length d0) (.slice B1 Co.none.i.length d1) (.slice B2 Co.none.r.length d2) by rw [hwc, es]; exact Box3.made _ _ _ _ _)
        have Ty := Lib.hid (show sy < w14.heap.size by rw [hwc, es]; simp)
        go_wp2_with fail
        rw [← hwc]
        rw [← es]
        clear hwc es
        refine (drawGetCost_ex _ k (CodeIn.onto HC.out HW.out HW.out.size) hlen).mono ?_
        rintro e w15 ⟨V, rfl, hV, hb⟩
        have Xk := Lib.hid (Xk.out.below hb Tk.out)
        have Tk := Lib.hid (Nat.lt_of_lt_of_le Tk.out hb.size)
        have Xy := Lib.hid (Xy.out.below hb Ty.out)
        have Ty := Lib.hid (Nat.lt_of_lt_of_le Ty.out hb.size)
        have Ik := Lib.hid (Ik.out.to_below hb)
        have Iy := Lib.hid (Iy.out.to_below hb)
        have HW := Lib.hid (HW.out.trans (hb.mono HW.out.size))
        clear hb
        have HV := Lib.hid (show V.size ≤ maxLen from Nat.le_trans hV (by decide))
        clear hV
        rcases hz : Co.get V with ⟨Z, fine⟩
        have HZ := Lib.hid hz
        have HLZ := Lib.hid (show Z.d.length ≤ 1048576 ∧ Z.i.length ≤ 1048576 ∧ Z.r.length ≤ 1048576 by have := Co.get_len V; rw [hz] at this; simp only at this; omega)
        have HPZ := Lib.hid (show fine = true → Co.put Z = V by intro h; have := Co.get_ok (s := V) (by rw [hz]; exact h); rw [hz] at this; exact this)
        clear hz
        go_wp2_with fail
        refine (implGotC HV.out HZ.out _).mono ?_
        rintro e w16 ⟨E0, E1, E2, f0, f1, f2, rfl, hin, hb⟩
        have Xk := Lib.hid (Xk.out.below hb Tk.out)
        have Tk := Lib.hid (Nat.lt_of_lt_of_le Tk.out hb.size)
        have Xy := Lib.hid (Xy.out.below hb Ty.out)
        have Ty := Lib.hid (Nat.lt_of_lt_of_le Ty.out hb.size)
        have Ik := Lib.hid (Ik.out.to_below hb)
        have Iy := Lib.hid (Iy.out.to_below hb)
        have HW := Lib.hid (HW.out.trans (hb.mono HW.out.size))
        clear hb
        have Iz := Lib.hid hin
        clear hin
        obtain ⟨sz, es⟩ : ∃ s, s = w16.heap.size := ⟨_, rfl⟩
        obtain ⟨w17, hwc⟩ : ∃ wc, wc = w16.alloc (.cells #[.slice E0 Z.d.length f0, .slice E1 Z.i.length f1, .slice E2 Z.r.length f2] 35) := ⟨_, rfl⟩
        have hb : Below w16.heap.size w16 w17 := by rw [hwc]; exact (Below.refl _ _).alloc (Nat.le_refl _) _
        have Xk := Lib.hid (Xk.out.below hb Tk.out)
        have Tk := Lib.hid (Nat.lt_of_lt_of_le Tk.out hb.size)
        have Xy := Lib.hid (Xy.out.below hb Ty.out)
        have Ty := Lib.hid (Nat.lt_of_lt_of_le Ty.out hb.size)
        have Ik := Lib.hid (Ik.out.to_below hb)
        have Iy := Lib.hid (Iy.out.to_below hb)
        have Iz := Lib.hid (Iz.out.to_below hb)
        have HW := Lib.hid (HW.out.trans (hb.mono HW.out.size))
        clear hb
        have Xz := Lib.hid (show Box3 w17 sz (.slice E0 Z.d.length f0) (.slice E1 Z.i.length f1) (.slice E2 Z.r.length f2) by rw [hwc, es]; exact Box3.made _ _ _ _ _)
        have Tz := Lib.hid (show sz < w17.heap.size by rw [hwc, es]; simp)
        go_wp2_with fail
        rw [← hwc]
        rw [← es]
        clear hwc es
        refine (specGotC HV.out HZ.out _).mono ?_
        rintro e w18 ⟨J0, J1, J2, i0, i1, i2, rfl, hin, hb⟩
        have Xk := Lib.hid (Xk.out.below hb Tk.out)
        have Tk := Lib.hid (Nat.lt_of_lt_of_le Tk.out hb.size)
        have Xy := Lib.hid (Xy.out.below hb Ty.out)
        have Ty := Lib.hid (Nat.lt_of_lt_of_le Ty.out hb.size)
        have Xz := Lib.hid (Xz.out.below hb Tz.out)
        have Tz := Lib.hid (Nat.lt_of_lt_of_le Tz.out hb.size)
        have Ik := Lib.hid (Ik.out.to_below hb)
        have Iy := Lib.hid (Iy.out.to_below hb)
        have Iz := Lib.hid (Iz.out.to_below hb)
        have HW := Lib.hid (HW.out.trans (hb.mono HW.out.size))
        clear hb
        clear hin
        obtain ⟨st, es⟩ : ∃ s, s = w18.heap.size := ⟨_, rfl⟩
        obtain ⟨w19, hwc⟩ : ∃ wc, wc = w18.alloc (.cells #[.slice J0 Z.d.length i0, .slice J1 Z.i.length i1, .slice J2 Z.r.length i2] 35) := ⟨_, rfl⟩
        have hb : Below w18.heap.size w18 w19 := by rw [hwc]; exact (Below.refl _ _).alloc (Nat.le_refl _) _
        have Xk := Lib.hid (Xk.out.below hb Tk.out)
        have Tk := Lib.hid (Nat.lt_of_lt_of_le Tk.out hb.size)
        have Xy := Lib.hid (Xy.out.below hb Ty.out)
        have Ty := Lib.hid (Nat.lt_of_lt_of_le Ty.out hb.size)
        have Xz := Lib.hid (Xz.out.below hb Tz.out)
        have Tz := Lib.hid (Nat.lt_of_lt_of_le Tz.out hb.size)
        have Ik := Lib.hid (Ik.out.to_below hb)
        have Iy := Lib.hid (Iy.out.to_below hb)
        have Iz := Lib.hid (Iz.out.to_below hb)
        have HW := Lib.hid (HW.out.trans (hb.mono HW.out.size))
        clear hb
        have Xt := Lib.hid (show Box3 w19 st (.slice J0 Z.d.length i0) (.slice J1 Z.i.length i1) (.slice J2 Z.r.length i2) by rw [hwc, es]; exact Box3.made _ _ _ _ _)
        have Tt := Lib.hid (show st < w19.heap.size by rw [hwc, es]; simp)
        obtain ⟨gk0, gk1, gk2⟩ := Xk.out
        rw [hwc] at gk0 gk1 gk2
        go_wp2_with fail
        clear gk0 gk1 gk2
        rw [← hwc]
        rw [← es]
        clear hwc es
        refine (specCostOk_any _ _ _ _ _ _ _ _ _ K _ Ik.out (by decide) HN1.out (by decide)).mono ?_
        rintro e w20 ⟨rfl, hb⟩
        have Xk := Lib.hid (Xk.out.below hb Tk.out)
        have Tk := Lib.hid (Nat.lt_of_lt_of_le Tk.out hb.size)
        have Xy := Lib.hid (Xy.out.below hb Ty.out)
        have Ty := Lib.hid (Nat.lt_of_lt_of_le Ty.out hb.size)
        have Xz := Lib.hid (Xz.out.below hb Tz.out)
        have Tz := Lib.hid (Nat.lt_of_lt_of_le Tz.out hb.size)
        have Xt := Lib.hid (Xt.out.below hb Tt.out)
        have Tt := Lib.hid (Nat.lt_of_lt_of_le Tt.out hb.size)
        have Ik := Lib.hid (Ik.out.to_below hb)
        have Iy := Lib.hid (Iy.out.to_below hb)
        have Iz := Lib.hid (Iz.out.to_below hb)
        have HW := Lib.hid (HW.out.trans (hb.mono HW.out.size))
        clear hb
        rw [HOK.out]
        cases fine with
        | false =>
          go_wp2
          go_ret
          exact ⟨rfl, HW.out⟩
        | true =>
          obtain ⟨gz0, gz1, gz2⟩ := Xz.out
          go_wp2_with fail
          clear gz0 gz1 gz2
          refine (implPutCost_any _ _ _ _ _ _ _ _ _ Z _ Iz.out HLZ.out.1 HLZ.out.2.1 HLZ.out.2.2).mono ?_
          rintro e w21 ⟨rfl, hb⟩
          have Xk := Lib.hid (Xk.out.below hb Tk.out)
          have Tk := Lib.hid (Nat.lt_of_lt_of_le Tk.out hb.size)
          have Xy := Lib.hid (Xy.out.below hb Ty.out)
          have Ty := Lib.hid (Nat.lt_of_lt_of_le Ty.out hb.size)
          have Xz := Lib.hid (Xz.out.below hb Tz.out)
          have Tz := Lib.hid (Nat.lt_of_lt_of_le Tz.out hb.size)
          have Xt := Lib.hid (Xt.out.below hb Tt.out)
          have Tt := Lib.hid (Nat.lt_of_lt_of_le Tt.out hb.size)
          have Ik := Lib.hid (Ik.out.to_below hb)
          have Iy := Lib.hid (Iy.out.to_below hb)
          have Iz := Lib.hid (Iz.out.to_below hb)
          have HW := Lib.hid (HW.out.trans (hb.mono HW.out.size))
          clear hb
          rw [HPZ.out (by simp)]
          go_wp2
          go_ret
          exact ⟨rfl, HW.out⟩
      | true =>
        have HG := Lib.hid (show Co.get U = (K, true) by rw [HEU.out]; exact Co.get_put hok)
        have hlK := Co.ok_len hok
        have HLY := Lib.hid (show K.d.length ≤ 1048576 ∧ K.i.length ≤ 1048576 ∧ K.r.length ≤ 1048576 by omega)
        clear hlK
        have HOK := Lib.hid hok
        clear hok
        go_wp2_with fail
        refine (implGotC HU.out HG.out _).mono ?_
        rintro e w13 ⟨B0, B1, B2, d0, d1, d2, rfl, hin, hb⟩
        have Xk := Lib.hid (Xk.out.below hb Tk.out)
        have Tk := Lib.hid (Nat.lt_of_lt_of_le Tk.out hb.size)
        have Ik := Lib.hid (Ik.out.to_below hb)
        have HW := Lib.hid (HW.out.trans (hb.mono HW.out.size))
        clear hb
        have Iy := Lib.hid hin
        clear hin
        obtain ⟨sy, es⟩ : ∃ s, s = w13.heap.size := ⟨_, rfl⟩
        obtain ⟨w14, hwc⟩ : ∃ wc, wc = w13.alloc (.cells #[.slice B0 K.d.length d0, .slice B1 K.i.length d1, .slice B2 K.r.length d2] 35) := ⟨_, rfl⟩
        have hb : Below w13.heap.size w13 w14 := by rw [hwc]; exact (Below.refl _ _).alloc (Nat.le_refl _) _
        have Xk := Lib.hid (Xk.out.below hb Tk.out)
        have Tk := Lib.hid (Nat.lt_of_lt_of_le Tk.out hb.size)
        have Ik := Lib.hid (Ik.out.to_below hb)
        have Iy := Lib.hid (Iy.out.to_below hb)
        have HW := Lib.hid (HW.out.trans (hb.mono HW.out.size))
        clear hb
        have Xy := Lib.hid (show Box3 w14 sy (.slice B0 K.d.length d0) (.slice B1 K.i.length d1) (.slice B2 K.r.length d2) by rw [hwc, es]; exact Box3.made _ _ _ _ _)
        have Ty := Lib.hid (show sy < w14.heap.size by rw [hwc, es]; simp)
        go_wp2_with fail
        rw [← hwc]
        rw [← es]
        clear hwc es
        refine (drawGetCost_ex _ k (CodeIn.onto HC.out HW.out HW.out.size) hlen).mono ?_
        rintro e w15 ⟨V, rfl, hV, hb⟩
        have Xk := Lib.hid (Xk.out.below hb Tk.out)
        have Tk := Lib.hid (Nat.lt_of_lt_of_le Tk.out hb.size)
        have Xy := Lib.hid (Xy.out.below hb Ty.out)
        have Ty := Lib.hid (Nat.lt_of_lt_of_le Ty.out hb.size)
        have Ik := Lib.hid (Ik.out.to_below hb)
        have Iy := Lib.hid (Iy.out.to_below hb)
        have HW := Lib.hid (HW.out.trans (hb.mono HW.out.size))
        clear hb
        have HV := Lib.hid (show V.size ≤ maxLen from Nat.le_trans hV (by decide))
        clear hV
        rcases hz : Co.get V with ⟨Z, fine⟩
        have HZ := Lib.hid hz
        have HLZ := Lib.hid (show Z.d.length ≤ 1048576 ∧ Z.i.length ≤ 1048576 ∧ Z.r.length ≤ 1048576 by have := Co.get_len V; rw [hz] at this; simp only at this; omega)
        have HPZ := Lib.hid (show fine = true → Co.put Z = V by intro h; have := Co.get_ok (s := V) (by rw [hz]; exact h); rw [hz] at this; exact this)
        clear hz
        go_wp2_with fail
        refine (implGotC HV.out HZ.out _).mono ?_
        rintro e w16 ⟨E0, E1, E2, f0, f1, f2, rfl, hin, hb⟩
        have Xk := Lib.hid (Xk.out.below hb Tk.out)
        have Tk := Lib.hid (Nat.lt_of_lt_of_le Tk.out hb.size)
        have Xy := Lib.hid (Xy.out.below hb Ty.out)
        have Ty := Lib.hid (Nat.lt_of_lt_of_le Ty.out hb.size)
        have Ik := Lib.hid (Ik.out.to_below hb)
        have Iy := Lib.hid (Iy.out.to_below hb)
        have HW := Lib.hid (HW.out.trans (hb.mono HW.out.size))
        clear hb
        have Iz := Lib.hid hin
        clear hin
        obtain ⟨sz, es⟩ : ∃ s, s = w16.heap.size := ⟨_, rfl⟩
        obtain ⟨w17, hwc⟩ : ∃ wc, wc = w16.alloc (.cells #[.slice E0 Z.d.length f0, .slice E1 Z.i.length f1, .slice E2 Z.r.length f2] 35) := ⟨_, rfl⟩
        have hb : Below w16.heap.size w16 w17 := by rw [hwc]; exact (Below.refl _ _).alloc (Nat.le_refl _) _
        have Xk := Lib.hid (Xk.out.below hb Tk.out)
        have Tk := Lib.hid (Nat.lt_of_lt_of_le Tk.out hb.size)
        have Xy := Lib.hid (Xy.out.below hb Ty.out)
        have Ty := Lib.hid (Nat.lt_of_lt_of_le Ty.out hb.size)
        have Ik := Lib.hid (Ik.out.to_below hb)
        have Iy := Lib.hid (Iy.out.to_below hb)
        have Iz := Lib.hid (Iz.out.to_below hb)
        have HW := Lib.hid (HW.out.trans (hb.mono HW.out.size))
        clear hb
        have Xz := Lib.hid (show Box3 w17 sz (.slice E0 Z.d.length f0) (.slice E1 Z.i.length f1) (.slice E2 Z.r.length f2) by rw [hwc, es]; exact Box3.made _ _ _ _ _)
        have Tz := Lib.hid (show sz < w17.heap.size by rw [hwc, es]; simp)
        go_wp2_with fail
        rw [← hwc]
        rw [← es]
        clear hwc es
        refine (specGotC HV.out HZ.out _).mono ?_
        rintro e w18 ⟨J0, J1, J2, i0, i1, i2, rfl, hin, hb⟩
        have Xk := Lib.hid (Xk.out.below hb Tk.out)
        have Tk := Lib.hid (Nat.lt_of_lt_of_le Tk.out hb.size)
        have Xy := Lib.hid (Xy.out.below hb Ty.out)
        have Ty := Lib.hid (Nat.lt_of_lt_of_le Ty.out hb.size)
        have Xz := Lib.hid (Xz.out.below hb Tz.out)
        have Tz := Lib.hid (Nat.lt_of_lt_of_le Tz.out hb.size)
        have Ik := Lib.hid (Ik.out.to_below hb)
        have Iy := Lib.hid (Iy.out.to_below hb)
        have Iz := Lib.hid (Iz.out.to_below hb)
        have HW := Lib.hid (HW.out.trans (hb.mono HW.out.size))
        clear hb
        clear hin
        obtain ⟨st, es⟩ : ∃ s, s = w18.heap.size := ⟨_, rfl⟩
        obtain ⟨w19, hwc⟩ : ∃ wc, wc = w18.alloc (.cells #[.slice J0 Z.d.length i0, .slice J1 Z.i.length i1, .slice J2 Z.r.length i2] 35) := ⟨_, rfl⟩
        have hb : Below w18.heap.size w18 w19 := by rw [hwc]; exact (Below.refl _ _).alloc (Nat.le_refl _) _
        have Xk := Lib.hid (Xk.out.below hb Tk.out)
        have Tk := Lib.hid (Nat.lt_of_lt_of_le Tk.out hb.size)
        have Xy := Lib.hid (Xy.out.below hb Ty.out)
        have Ty := Lib.hid (Nat.lt_of_lt_of_le Ty.out hb.size)
        have Xz := Lib.hid (Xz.out.below hb Tz.out)
        have Tz := Lib.hid (Nat.lt_of_lt_of_le Tz.out hb.size)
        have Ik := Lib.hid (Ik.out.to_below hb)
        have Iy := Lib.hid (Iy.out.to_below hb)
        have Iz := Lib.hid (Iz.out.to_below hb)
        have HW := Lib.hid (HW.out.trans (hb.mono HW.out.size))
        clear hb
        have Xt := Lib.hid (show Box3 w19 st (.slice J0 Z.d.length i0) (.slice J1 Z.i.length i1) (.slice J2 Z.r.length i2) by rw [hwc, es]; exact Box3.made _ _ _ _ _)
        have Tt := Lib.hid (show st < w19.heap.size by rw [hwc, es]; simp)
        obtain ⟨gk0, gk1, gk2⟩ := Xk.out
        rw [hwc] at gk0 gk1 gk2
        go_wp2_with fail
        clear gk0 gk1 gk2
        rw [← hwc]
        rw [← es]
        clear hwc es
        refine (specCostOk_any _ _ _ _ _ _ _ _ _ K _ Ik.out (by decide) HN1.out (by decide)).mono ?_
        rintro e w20 ⟨rfl, hb⟩
        have Xk := Lib.hid (Xk.out.below hb Tk.out)
        have Tk := Lib.hid (Nat.lt_of_lt_of_le Tk.out hb.size)
        have Xy := Lib.hid (Xy.out.below hb Ty.out)
        have Ty := Lib.hid (Nat.lt_of_lt_of_le Ty.out hb.size)
        have Xz := Lib.hid (Xz.out.below hb Tz.out)
        have Tz := Lib.hid (Nat.lt_of_lt_of_le Tz.out hb.size)
        have Xt := Lib.hid (Xt.out.below hb Tt.out)
        have Tt := Lib.hid (Nat.lt_of_lt_of_le Tt.out hb.size)
        have Ik := Lib.hid (Ik.out.to_below hb)
        have Iy := Lib.hid (Iy.out.to_below hb)
        have Iz := Lib.hid (Iz.out.to_below hb)
        have HW := Lib.hid (HW.out.trans (hb.mono HW.out.size))
        clear hb
        rw [HOK.out]
        obtain ⟨gk0, gk1, gk2⟩ := Xk.out
        obtain ⟨gy0, gy1, gy2⟩ := Xy.out
        go_wp2_with fail
        clear gk0 gk1 gk2
        clear gy0 gy1 gy2
        refine (specSameCost_any _ _ _ _ _ _ _ _ _ _ _ _ _ _ _ _ _ _ K K _ Ik.out Iy.out (by decide) HN1.out (by decide) HLY.out.1 HLY.out.2.1 HLY.out.2.2).mono ?_
        rintro e w21 ⟨rfl, hb⟩
        have Xk := Lib.hid (Xk.out.below hb Tk.out)
        have Tk := Lib.hid (Nat.lt_of_lt_of_le Tk.out hb.size)
        have Xy := Lib.hid (Xy.out.below hb Ty.out)
        have Ty := Lib.hid (Nat.lt_of_lt_of_le Ty.out hb.size)
        have Xz := Lib.hid (Xz.out.below hb Tz.out)
        have Tz := Lib.hid (Nat.lt_of_lt_of_le Tz.out hb.size)
        have Xt := Lib.hid (Xt.out.below hb Tt.out)
        have Tt := Lib.hid (Nat.lt_of_lt_of_le Tt.out hb.size)
        have Ik := Lib.hid (Ik.out.to_below hb)
        have Iy := Lib.hid (Iy.out.to_below hb)
        have Iz := Lib.hid (Iz.out.to_below hb)
        have HW := Lib.hid (HW.out.trans (hb.mono HW.out.size))
        clear hb
        rw [Co.same_refl]
        obtain ⟨gk0, gk1, gk2⟩ := Xk.out
        obtain ⟨gy0, gy1, gy2⟩ := Xy.out
        go_wp2_with fail
        clear gk0 gk1 gk2
        clear gy0 gy1 gy2
        refine (implSameCost_any _ _ _ _ _ _ _ _ _ _ _ _ _ _ _ _ _ _ K K _ Ik.out Iy.out (by decide) HN1.out (by decide) HLY.out.1 HLY.out.2.1 HLY.out.2.2).mono ?_
        rintro e w22 ⟨rfl, hb⟩
        have Xk := Lib.hid (Xk.out.below hb Tk.out)
        have Tk := Lib.hid (Nat.lt_of_lt_of_le Tk.out hb.size)
        have Xy := Lib.hid (Xy.out.below hb Ty.out)
        have Ty := Lib.hid (Nat.lt_of_lt_of_le Ty.out hb.size)
        have Xz := Lib.hid (Xz.out.below hb Tz.out)
        have Tz := Lib.hid (Nat.lt_of_lt_of_le Tz.out hb.size)
        have Xt := Lib.hid (Xt.out.below hb Tt.out)
        have Tt := Lib.hid (Nat.lt_of_lt_of_le Tt.out hb.size)
        have Ik := Lib.hid (Ik.out.to_below hb)
        have Iy := Lib.hid (Iy.out.to_below hb)
        have Iz := Lib.hid (Iz.out.to_below hb)
        have HW := Lib.hid (HW.out.trans (hb.mono HW.out.size))
        clear hb
        rw [Co.same_refl]
        cases fine with
        | false =>
          go_wp2
          go_ret
          exact ⟨rfl, HW.out⟩
        | true =>
          obtain ⟨gz0, gz1, gz2⟩ := Xz.out
          go_wp2_with fail
          clear gz0 gz1 gz2
          refine (implPutCost_any _ _ _ _ _ _ _ _ _ Z _ Iz.out HLZ.out.1 HLZ.out.2.1 HLZ.out.2.2).mono ?_
          rintro e w23 ⟨rfl, hb⟩
          have Xk := Lib.hid (Xk.out.below hb Tk.out)
          have Tk := Lib.hid (Nat.lt_of_lt_of_le Tk.out hb.size)
          have Xy := Lib.hid (Xy.out.below hb Ty.out)
          have Ty := Lib.hid (Nat.lt_of_lt_of_le Ty.out hb.size)
          have Xz := Lib.hid (Xz.out.below hb Tz.out)
          have Tz := Lib.hid (Nat.lt_of_lt_of_le Tz.out hb.size)
          have Xt := Lib.hid (Xt.out.below hb Tt.out)
          have Tt := Lib.hid (Nat.lt_of_lt_of_le Tt.out hb.size)
          have Ik := Lib.hid (Ik.out.to_below hb)
          have Iy := Lib.hid (Iy.out.to_below hb)
          have Iz := Lib.hid (Iz.out.to_below hb)
          have HW := Lib.hid (HW.out.trans (hb.mono HW.out.size))
          clear hb
          rw [HPZ.out (by simp)]
          go_wp2
          go_ret
          exact ⟨rfl, HW.out⟩

end Go.Proofs.YtpdpkcadolcbmaaDoor
