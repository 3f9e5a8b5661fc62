/- Plain mathematics of chapter 1. -/
import Derived.Test.YtfchmdhlfhoogaaNum
import Derived.Test.YtfchmdhlfhoogaaKit
import Derived.Lib.Strings
import Derived.Lib.Bytealg
namespace Go.Proofs.Ytfchmdhlfhoogaa
open Go.RowKit
set_option linter.unusedVariables false

/-- bytes as a number, the most significant first -/
def Num.rd (l : List UInt8) : Nat := l.foldl (fun n b => n * 256 + b.toNat) 0

theorem Num.rd_snoc (l : List UInt8) (b : UInt8) : Num.rd (l ++ [b]) = Num.rd l * 256 + b.toNat := by
  simp [Num.rd]

theorem Num.rd_lt (l : List UInt8) : Num.rd l < 2 ^ (8 * l.length) := by
  refine Kit.snoc_rec (P := fun l => Num.rd l < 2 ^ (8 * l.length)) (by simp [Num.rd]) (fun l b ih => ?_) l
  rw [Num.rd_snoc]
  have hb : b.toNat < 256 := b.toNat_lt
  simp only [List.length_append, List.length_singleton, Nat.mul_add, Nat.pow_add]
  omega

theorem Num.rd_small (l : List UInt8) (h : l.length ≤ 6) : Num.rd l ≤ 281474976710655 := by
  have h1 := Num.rd_lt l
  have h2 : 2 ^ (8 * l.length) ≤ 2 ^ 48 := Nat.pow_le_pow_right (by omega) (by omega)
  omega

/-- the answer of ReadFixed -/
def Num.readB (s : ByteArray) (wd : Int) : Bool := decide (1 ≤ wd ∧ wd ≤ 7 ∧ wd ≤ s.size)

def Num.readN (s : ByteArray) (wd : Int) : Nat := if Num.readB s wd then Num.rd (s.data.toList.take wd.toNat) else 0

/-- the varint of a number below 128^(f+1) -/
def Num.varF : Nat → Nat → List UInt8
  | 0, q => [UInt8.ofNat q]
  | f + 1, q => if q < 128 then [UInt8.ofNat q] else UInt8.ofNat (128 + q % 128) :: Num.varF f (q / 128)

/-- what Var gives -/
def Num.varR (n : Int) : List UInt8 := if 0 ≤ n ∧ n ≤ 562949953421311 then Num.varF 6 n.toNat else []

theorem Num.varF_small (f q : Nat) (h : q < 128) : Num.varF f q = [UInt8.ofNat q] := by
  cases f <;> simp [Num.varF, h]

theorem Num.varF_big (f q : Nat) (h : 128 ≤ q) : Num.varF (f + 1) q = UInt8.ofNat (128 + q % 128) :: Num.varF f (q / 128) := by
  rw [Num.varF, if_neg (by omega)]

/-- what holds at each round's head: f bytes at most come behind those that are gathered -/
def Num.VarAt (m f q : Nat) (acc : List UInt8) : Prop := acc.length + f = 6 ∧ q < 128 ^ (f + 1) ∧ acc ++ Num.varF f q = Num.varF 6 m

theorem Num.VarAt.start {m : Nat} (h : m ≤ 562949953421311) : Num.VarAt m 6 m [] := ⟨rfl, by omega, by simp⟩

theorem Num.VarAt.len {m f q : Nat} {acc : List UInt8} (h : Num.VarAt m f q acc) : acc.length ≤ 6 := by have := h.1; omega

theorem Num.VarAt.step {m f q : Nat} {acc : List UInt8} (h : Num.VarAt m f q acc) (hq : 128 ≤ q) :
    ∃ f', f = f' + 1 ∧ Num.VarAt m f' (q / 128) (acc ++ [UInt8.ofNat (128 + q % 128)]) := by
  obtain ⟨h1, h2, h3⟩ := h
  cases f with
  | zero => omega
  | succ f =>
    refine ⟨f, rfl, by simp; omega, ?_, ?_⟩
    · rw [Nat.pow_succ] at h2
      exact Nat.div_lt_of_lt_mul (by omega)
    · rw [Num.varF_big f q hq] at h3
      simpa using h3

theorem Num.VarAt.stop {m f q : Nat} {acc : List UInt8} (h : Num.VarAt m f q acc) (hq : q < 128) : acc ++ [UInt8.ofNat q] = Num.varF 6 m := by
  have := h.2.2
  rwa [Num.varF_small f q hq] at this

theorem Num.VarAt.le {m f q : Nat} {acc : List UInt8} (h : Num.VarAt m f q acc) : q ≤ 562949953421311 := by
  obtain ⟨h1, h2, _⟩ := h
  have : 128 ^ (f + 1) ≤ 128 ^ 7 := Nat.pow_le_pow_right (by omega) (by omega)
  omega

/-- the digit of a number below 16 -/
def Num.hexd (k : Nat) : UInt8 := if k < 10 then UInt8.ofNat (48 + k) else UInt8.ofNat (87 + k)

/-- what Hex gives -/
def Num.hexL : List UInt8 → List UInt8
  | [] => []
  | b :: l => Num.hexd (b.toNat / 16) :: Num.hexd (b.toNat % 16) :: Num.hexL l

theorem Num.hexL_snoc (l : List UInt8) (b : UInt8) : Num.hexL (l ++ [b]) = Num.hexL l ++ [Num.hexd (b.toNat / 16), Num.hexd (b.toNat % 16)] := by
  induction l with
  | nil => rfl
  | cons a l ih => simp [Num.hexL, ih]

theorem Num.hexL_length (l : List UInt8) : (Num.hexL l).length = 2 * l.length := by
  induction l with
  | nil => rfl
  | cons a l ih => simp [Num.hexL, ih]; omega

theorem Num.hexIdx : ∀ n : Fin 16, (ByteArray.mk #[48, 49, 50, 51, 52, 53, 54, 55, 56, 57, 97, 98, 99, 100, 101, 102])[n.1]'n.2 = Num.hexd n.1 := by decide

theorem Num.hexAt (n : Nat) (h : n < (ByteArray.mk #[48, 49, 50, 51, 52, 53, 54, 55, 56, 57, 97, 98, 99, 100, 101, 102]).size) : (ByteArray.mk #[48, 49, 50, 51, 52, 53, 54, 55, 56, 57, 97, 98, 99, 100, 101, 102])[n]'h = Num.hexd n :=
  Num.hexIdx ⟨n, h⟩

/-- the value of a digit, or -1 -/
def Num.fromHex (b : UInt8) : Int := if 48 ≤ b.toNat ∧ b.toNat ≤ 57 then b.toNat - 48 else if 97 ≤ b.toNat ∧ b.toNat ≤ 102 then b.toNat - 87 else -1

theorem Num.fromHex_hit {k : Nat} {b : UInt8} (hk : k < 16) (h : Num.hexd k = b) : Num.fromHex b = k := by
  have : ∀ k : Fin 16, Num.fromHex (Num.hexd k.1) = (k.1 : Int) := by decide
  subst h
  exact this ⟨k, hk⟩

theorem Num.fromHex_miss {b : UInt8} (h : ∀ j, j < 16 → Num.hexd j ≠ b) : Num.fromHex b = -1 := by
  have ofn : ∀ n, n = b.toNat → UInt8.ofNat n = b := by intro n hn; subst hn; exact UInt8.ofNat_toNat
  unfold Num.fromHex
  by_cases h1 : 48 ≤ b.toNat ∧ b.toNat ≤ 57
  · exact absurd (by unfold Num.hexd; rw [if_pos (by omega)]; exact ofn _ (by omega)) (h (b.toNat - 48) (by omega))
  · by_cases h2 : 97 ≤ b.toNat ∧ b.toNat ≤ 102
    · exact absurd (by unfold Num.hexd; rw [if_neg (by omega)]; exact ofn _ (by omega)) (h (b.toNat - 87) (by omega))
    · rw [if_neg h1, if_neg h2]

theorem Num.fromHex_bd (b : UInt8) : -1 ≤ Num.fromHex b ∧ Num.fromHex b < 16 := by
  unfold Num.fromHex; split
  · omega
  · split <;> omega

/-- what Unhex gives -/
def Num.unhex : List UInt8 → Option (List UInt8)
  | [] => some []
  | [_] => none
  | a :: b :: l => if Num.fromHex a < 0 ∨ Num.fromHex b < 0 then none else (Num.unhex l).map (UInt8.ofNat (16 * Num.fromHex a + Num.fromHex b).toNat :: ·)

theorem Num.unhex_append : ∀ (n : Nat) (l m : List UInt8), l.length = 2 * n → Num.unhex (l ++ m) = (Num.unhex l).bind fun x => (Num.unhex m).map (x ++ ·)
  | 0, l, m, h => by
    obtain rfl := List.eq_nil_of_length_eq_zero (by simpa using h)
    simp [Num.unhex]
  | n + 1, l, m, h => by
    match l, h with
    | a :: b :: l, h =>
      simp only [List.cons_append, Num.unhex]
      split
      · rfl
      · rw [Num.unhex_append n l m (by simp at h; omega)]
        cases Num.unhex l <;> simp [Function.comp_def]

theorem Num.unhex_odd : ∀ (n : Nat) (l : List UInt8), l.length = 2 * n + 1 → Num.unhex l = none
  | 0, l, h => by
    match l, h with
    | [_], _ => rfl
  | n + 1, l, h => by
    match l, h with
    | a :: b :: l, h =>
      simp only [Num.unhex]
      split
      · rfl
      · rw [Num.unhex_odd n l (by simp at h; omega)]; rfl

theorem Num.take_two (s : ByteArray) (k : Nat) (h : 2 * k + 1 < s.size) : s.data.toList.take (2 * (k + 1)) = s.data.toList.take (2 * k) ++ [s[2 * k], s[2 * k + 1]] := by
  rw [show 2 * (k + 1) = 2 * k + 1 + 1 by omega, Kit.take_snoc s _ h, Kit.take_snoc s _ (by omega)]
  simp

theorem Num.drop_two (s : ByteArray) (k : Nat) (h : 2 * k + 1 < s.size) : s.data.toList = s.data.toList.take (2 * k) ++ s[2 * k] :: s[2 * k + 1] :: s.data.toList.drop (2 * (k + 1)) := by
  have := Num.take_two s k h
  have e := List.take_append_drop (2 * (k + 1)) s.data.toList
  rw [this] at e
  simpa using e.symm

theorem Num.unhex_step {s : ByteArray} {k : Nat} {acc : List UInt8} (h : 2 * k + 1 < s.size) (ha : Num.unhex (s.data.toList.take (2 * k)) = some acc) (h1 : 0 ≤ Num.fromHex s[2 * k]) (h2 : 0 ≤ Num.fromHex s[2 * k + 1]) :
    Num.unhex (s.data.toList.take (2 * (k + 1))) = some (acc ++ [UInt8.ofNat (16 * Num.fromHex s[2 * k] + Num.fromHex s[2 * k + 1]).toNat]) := by
  rw [Num.take_two s k h, Num.unhex_append k _ _ (by simp; omega), ha]
  simp only [Num.unhex]
  rw [if_neg (by omega)]
  rfl

theorem Num.unhex_bad {s : ByteArray} {k : Nat} {acc : List UInt8} (h : 2 * k + 1 < s.size) (ha : Num.unhex (s.data.toList.take (2 * k)) = some acc) (h1 : Num.fromHex s[2 * k] < 0 ∨ Num.fromHex s[2 * k + 1] < 0) :
    Num.unhex s.data.toList = none := by
  rw [Num.drop_two s k h, Num.unhex_append k _ _ (by simp; omega), ha]
  simp only [Num.unhex]
  rw [if_pos h1]
  rfl

theorem Num.idxHex : ∀ n : Fin 256, Lib.indexByte [48, 49, 50, 51, 52, 53, 54, 55, 56, 57, 97, 98, 99, 100, 101, 102] (UInt8.ofNat n.1) = Num.fromHex (UInt8.ofNat n.1) := by decide +kernel

theorem Kit.or16 (x y : Nat) (hx : x < 16) (hy : y < 16) : bits .or .i64 ((x : Int) * 16) (y : Int) = 16 * (x : Int) + y := by
  have h := Kit.i64_or (x * 16) y (by omega) (by omega)
  rw [nat_join 4 (x * 16) y (by omega) (by omega)] at h
  rw [Int.mul_comm 16]
  simpa using h

theorem Kit.or16i {x y : Int} (h0 : 0 ≤ x) (h1 : x < 16) (h2 : 0 ≤ y) (h3 : y < 16) : bits .or .i64 (x * 16) y = 16 * x + y := by
  obtain ⟨a, rfl⟩ := Int.eq_ofNat_of_zero_le h0
  obtain ⟨b, rfl⟩ := Int.eq_ofNat_of_zero_le h2
  exact Kit.or16 a b (by omega) (by omega)

def Num.unhexS (s : ByteArray) : List UInt8 := (Num.unhex s.data.toList).getD []

def Num.unhexB (s : ByteArray) : Bool := (Num.unhex s.data.toList).isSome

/-- the number of seven bits a byte, the least significant first -/
def Num.val7 : List UInt8 → Nat
  | [] => 0
  | b :: l => b.toNat % 128 + 128 * Num.val7 l

theorem Num.val7_lt (l : List UInt8) : Num.val7 l < 128 ^ l.length := by
  induction l with
  | nil => simp [Num.val7]
  | cons b l ih =>
    simp only [Num.val7, List.length_cons, Nat.pow_succ]
    have : b.toNat % 128 < 128 := Nat.mod_lt _ (by decide)
    omega

theorem Num.val7_small (l : List UInt8) (h : l.length ≤ 7) : Num.val7 l ≤ 562949953421311 := by
  have h1 := Num.val7_lt l
  have h2 : 128 ^ l.length ≤ 128 ^ 7 := Nat.pow_le_pow_right (by omega) h
  omega

theorem Num.val7_small6 (l : List UInt8) (h : l.length ≤ 6) : Num.val7 l ≤ 4398046511103 := by
  have h1 := Num.val7_lt l
  have h2 : 128 ^ l.length ≤ 128 ^ 6 := Nat.pow_le_pow_right (by omega) h
  omega

/-- the length up to the first byte below 128, among the first seven -/
def Num.vsz : Nat → List UInt8 → Nat → Nat
  | 0, _, _ => 0
  | _ + 1, [], _ => 0
  | f + 1, b :: l, i => if b.toNat < 128 then i + 1 else Num.vsz f l (i + 1)

def Num.vsize (l : List UInt8) : Nat := Num.vsz 7 l 0

theorem Num.vsz_le (f : Nat) : ∀ (l : List UInt8) (i : Nat), Num.vsz f l i = 0 ∨ (i < Num.vsz f l i ∧ Num.vsz f l i ≤ i + f ∧ Num.vsz f l i ≤ i + l.length) := by
  induction f with
  | zero => intro l i; left; rfl
  | succ f ih =>
    intro l i
    cases l with
    | nil => left; rfl
    | cons b l =>
      simp only [Num.vsz, List.length_cons]
      split
      · right; omega
      · rcases ih l (i + 1) with h | h
        · left; exact h
        · right; omega

theorem Num.vsize_le (l : List UInt8) : Num.vsize l ≤ 7 ∧ Num.vsize l ≤ l.length := by
  have := Num.vsz_le 7 l 0
  unfold Num.vsize; omega

theorem Num.vsz_var : ∀ (f q : Nat) (rest : List UInt8) (i : Nat), q < 128 ^ (f + 1) → Num.vsz (f + 1) (Num.varF f q ++ rest) i = i + (Num.varF f q).length
  | 0, q, rest, i, h => by
    have hq : q < 128 := by simpa using h
    simp [Num.varF, Num.vsz, UInt8.toNat_ofNat', Nat.mod_eq_of_lt (show q < 256 by omega), hq]
  | f + 1, q, rest, i, h => by
    by_cases hq : q < 128
    · rw [Num.varF_small _ _ hq]
      simp [Num.vsz, UInt8.toNat_ofNat', Nat.mod_eq_of_lt (show q < 256 by omega), hq]
    · rw [Num.varF_big _ _ (by omega)]
      have hb : (UInt8.ofNat (128 + q % 128)).toNat = 128 + q % 128 := by rw [UInt8.toNat_ofNat']; omega
      simp only [List.cons_append, Num.vsz, hb, List.length_cons]
      rw [if_neg (by omega), Num.vsz_var f (q / 128) rest (i + 1) (by rw [Nat.pow_succ] at h; exact Nat.div_lt_of_lt_mul (by omega))]
      omega

/-- is the beginning of k bytes the varint of what it says? -/
def Num.good (l : List UInt8) (k : Nat) : Prop := Num.varF 6 (Num.val7 (l.take k)) = l.take k

theorem Num.good_size {l : List UInt8} {k : Nat} (h7 : k ≤ 7) (hk : k ≤ l.length) (h : Num.good l k) : Num.vsize l = k := by
  have h1 : l = Num.varF 6 (Num.val7 (l.take k)) ++ l.drop k := by
    rw [h]; exact (List.take_append_drop k l).symm
  have h2 := Num.vsz_var 6 (Num.val7 (l.take k)) (l.drop k) 0 (by
    have := Num.val7_small (l.take k) (by simp; omega)
    omega)
  rw [← h1, h] at h2
  unfold Num.vsize
  rw [h2]; simp; omega

instance (l : List UInt8) (k : Nat) : Decidable (Num.good l k) := by unfold Num.good; infer_instance

/-- what ReadVar gives -/
def Num.rvK (s : ByteArray) : Nat := if Num.good s.data.toList (Num.vsize s.data.toList) then Num.vsize s.data.toList else 0

def Num.rvN (s : ByteArray) : Nat := Num.val7 (s.data.toList.take (Num.rvK s))

theorem Num.rv_good {s : ByteArray} {k : Nat} (h7 : k ≤ 7) (hk : k ≤ s.size) (h : Num.good s.data.toList k) : Num.rvK s = k ∧ Num.rvN s = Num.val7 (s.data.toList.take k) := by
  have hs := Num.good_size h7 (by simpa using hk) h
  have : Num.rvK s = k := by unfold Num.rvK; rw [hs, if_pos h]
  exact ⟨this, by unfold Num.rvN; rw [this]⟩

theorem Num.not_good_zero (l : List UInt8) : ¬ Num.good l 0 := by
  unfold Num.good
  simp [Num.val7, Num.varF]

theorem Num.rv_none {s : ByteArray} (h : ∀ k, 1 ≤ k → k ≤ 7 → k ≤ s.size → ¬ Num.good s.data.toList k) : Num.rvK s = 0 ∧ Num.rvN s = 0 := by
  have h0 : Num.rvK s = 0 := by
    unfold Num.rvK
    split
    · rename_i hg
      have hle := Num.vsize_le s.data.toList
      rcases Nat.eq_zero_or_pos (Num.vsize s.data.toList) with hz | hz
      · exact hz
      · exact absurd hg (h _ hz hle.1 (by simpa using hle.2))
    · rfl
  exact ⟨h0, by unfold Num.rvN; rw [h0]; rfl⟩

/-- the value of the bytes from i on, among the first k -/
theorem Num.val7_drop (s : ByteArray) (k i : Nat) (hi : i < k) (hk : k ≤ s.size) : Num.val7 ((s.data.toList.take k).drop i) = s[i].toNat % 128 + 128 * Num.val7 ((s.data.toList.take k).drop (i + 1)) := by
  have hl : i < (s.data.toList.take k).length := by simp; omega
  rw [List.drop_eq_getElem_cons hl]
  simp only [Num.val7]
  rw [List.getElem_take]
  rfl

theorem Num.good_test {s : ByteArray} {k : Nat} (h7 : k ≤ 7) : (Num.varR (Num.val7 (s.data.toList.take k) : Nat) == (s.extract 0 k).toList) = decide (Num.good s.data.toList k) := by
  have hs := Num.val7_small (s.data.toList.take k) (by simp; omega)
  have e : (s.extract 0 k).toList = s.data.toList.take k := by rw [Lib.extract_toList]; simp
  unfold Num.varR Num.good
  rw [if_pos (by omega), e, Int.toNat_natCast]
  rw [Bool.eq_iff_iff, beq_iff_eq]; exact decide_eq_true_iff.symm

theorem Num.vsz_skip (s : ByteArray) : ∀ (k f : Nat), k ≤ s.size → (∀ j (h : j < s.size), j < k → 128 ≤ s[j].toNat) → Num.vsz (k + f) s.data.toList 0 = Num.vsz f (s.data.toList.drop k) k := by
  have key : ∀ (k f i : Nat) (l : List UInt8), k ≤ l.length → (∀ j (h : j < l.length), j < k → 128 ≤ l[j].toNat) → Num.vsz (k + f) l i = Num.vsz f (l.drop k) (i + k) := by
    intro k
    induction k with
    | zero => intro f i l _ _; simp
    | succ k ih =>
      intro f i l hk h
      cases l with
      | nil => simp at hk
      | cons b l =>
        have h0 := h 0 (by simp) (by omega)
        simp at h0
        rw [show k + 1 + f = (k + f) + 1 by omega]
        simp only [Num.vsz]
        rw [if_neg (by omega), ih f (i + 1) l (by simpa using hk) (fun j hj hjk => by
          have := h (j + 1) (by simpa using hj) (by omega)
          simpa using this)]
        simp
        congr 1; omega
  intro k f hk h
  have := key k f 0 s.data.toList (by simpa using hk) (fun j hj hjk => h j (by simpa using hj) hjk)
  simpa using this

theorem Num.vsize_hit {s : ByteArray} {k : Nat} (h7 : k < 7) (hk : k < s.size) (h : ∀ j (h : j < s.size), j < k → 128 ≤ s[j].toNat) (hb : s[k].toNat < 128) : Num.vsize s.data.toList = k + 1 := by
  have h1 := Num.vsz_skip s k (7 - k) (by omega) h
  rw [show k + (7 - k) = 7 by omega] at h1
  unfold Num.vsize
  rw [h1, show 7 - k = (6 - k) + 1 by omega, List.drop_eq_getElem_cons (by simpa using hk)]
  simp only [Num.vsz]
  rw [if_pos (by exact hb)]

theorem Num.vsize_miss {s : ByteArray} {k : Nat} (h7 : k ≤ 7) (hk : k ≤ s.size) (hl : k = 7 ∨ k = s.size) (h : ∀ j (h : j < s.size), j < k → 128 ≤ s[j].toNat) : Num.vsize s.data.toList = 0 := by
  have h1 := Num.vsz_skip s k (7 - k) hk h
  rw [show k + (7 - k) = 7 by omega] at h1
  unfold Num.vsize
  rw [h1]
  rcases hl with rfl | rfl
  · rfl
  · rw [List.drop_eq_nil_of_le (by simp)]
    cases 7 - s.size <;> rfl

end Go.Proofs.Ytfchmdhlfhoogaa
