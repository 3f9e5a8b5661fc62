/- Plain mathematics of chapter 1 (bytes of a number), without the program. -/
import Derived.WalkKit
namespace Go.Proofs.Ytfchmdhlfhoogaa.Num

/-- n divided k times by 256 -/
def dn (n : Nat) : Nat → Nat
  | 0 => n
  | k + 1 => dn n k / 256

/-- the k low bytes of n, the most significant first -/
def fix (n : Nat) : Nat → List UInt8
  | 0 => []
  | k + 1 => UInt8.ofNat (dn n k % 256) :: fix n k

theorem fix_length (n k : Nat) : (fix n k).length = k := by
  induction k with
  | zero => rfl
  | succ k ih => simp [fix, ih]

theorem dn_pow (n k : Nat) : dn n k = n / 2 ^ (8 * k) := by
  induction k with
  | zero => simp [dn]
  | succ k ih =>
    rw [dn, ih, Nat.div_div_eq_div_mul]
    congr 1
    rw [Nat.mul_add, Nat.pow_add]

theorem dn_le (n k : Nat) : dn n k ≤ n := by
  rw [dn_pow]; exact Nat.div_le_self _ _

/-- what Fixed gives -/
def fixR (n wd : Int) : List UInt8 :=
  if 1 ≤ wd ∧ wd ≤ 7 ∧ 0 ≤ n ∧ dn n.toNat wd.toNat = 0 then fix n.toNat wd.toNat else []

theorem fixR_no {n wd : Int} (h : n < 0 ∨ wd < 1 ∨ 7 < wd) : fixR n wd = [] := by
  unfold fixR; rw [if_neg (by omega)]
theorem fixR_big {m : Nat} {wd : Int} (h : dn m wd.toNat ≠ 0) : fixR m wd = [] := by
  unfold fixR; rw [if_neg (by simp; omega)]
theorem fixR_yes {m : Nat} {wd : Int} (h1 : 1 ≤ wd) (h7 : wd ≤ 7) (h : dn m wd.toNat = 0) : fixR m wd = fix m wd.toNat := by
  unfold fixR; rw [if_pos (by simp; omega)]; simp

/-- the row of bytes when k of its d places are filled from the right -/
def fixCells (m d k : Nat) : List Value := List.replicate (d - k) (.int .u8 0) ++ (fix m k).map fun b => .int .u8 b.toNat

theorem made_cells (m d : Nat) : (madeCells (Value.int .u8 0).cells (d * 1)).toList = fixCells m d 0 := by
  rw [show (Value.int .u8 0).cells = #[.int .u8 0] from rfl, toList_madeCells_one]
  simp [fixCells, fix]

theorem fixCells_at (m : Nat) {d k : Nat} (h : k < d) : (fixCells m d k)[d - 1 - k]? = some (.int .u8 0) := by
  unfold fixCells
  rw [List.getElem?_append_left (by simp; omega), List.getElem?_replicate, if_pos (by omega)]

theorem fixCells_set (m : Nat) {d k : Nat} (h : k < d) : (fixCells m d k).set (d - 1 - k) (.int .u8 ((dn m k : Int) % 256)) = fixCells m d (k + 1) := by
  unfold fixCells
  rw [List.set_append_left _ _ (by simp; omega)]
  have e : d - k = (d - (k + 1)) + 1 := by omega
  have e2 : d - 1 - k = d - (k + 1) := by omega
  rw [e, e2, List.replicate_succ']
  rw [List.set_append_right _ _ (by simp)]
  simp [fix]

theorem fixCells_full {w : World} {B e m d : Nat} (h : w.ownsRow B e 1 (.slice (some ⟨B, 0, none⟩) d d) d (fixCells m d d)) :
    ∀ j (hj : j < (fix m d).length), w.cell? ((⟨B, 0, none⟩ : Addr).add j) = some (.int .u8 ((fix m d)[j].toNat : Int)) := by
  intro j hj
  have hj' := hj
  rw [fix_length] at hj'
  have := h.cellAt j (by omega)
  rw [show ((⟨B, 0, none⟩ : Addr).add j) = ⟨B, j, none⟩ from by unfold Addr.add; split <;> simp_all]
  rw [this]
  simp [fixCells, hj]

end Go.Proofs.Ytfchmdhlfhoogaa.Num
