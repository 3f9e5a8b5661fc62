/- Texts of one claim laid into one file, in build order: TreeOkS, AtS, EndOfS, PostS, Dst, Com, Bm, Dtb, F8, Fce, Part, L7In, CostOkS, KeyI, Three, UnitS, SideI, FullM. -/
import Derived.Test.YtnfjdlocmdgefaaEl1
import Derived.Test.YtnfjdlocmdgefaaEl2
import Derived.BigQuiet
import Derived.Deep.RegionHeld3
import Derived.Deep.RegionLaw
import Derived.Laws.OwnMore
import Derived.Laws.Tables
import Derived.Outline
import Derived.Test.YtnfjdlocmdgefaaRows
/- Contracts (TreeOkS). -/
namespace Go.Proofs.Ytnfjdlocmdgefaa
open Go.RowKit
set_option linter.unusedVariables false

set_option maxHeartbeats 800000 in
set_option maxRecDepth 100000 in
theorem specTreeOk_any (A : Option Addr) (n c : Nat) (xs : Tr) (w : World) (h : NdIn w w.heap.size A n xs) (hn : n ≤ 1048576) :
    Calls Try.prog 10 #[.slice A n c] w fun e w' => e = .returned (.bool (Tr.ok xs)) ∧ Drawn w w' := by
  have H := Lib.hid h
  clear h
  go_enter Try.func10, Try.ntmps10
  go_wp2
  go_loopw [3] (fun iv wr => ∃ k : Nat, k ≤ n ∧ iv = .int .i64 k ∧ Tr.okTo xs k ∧ Drawn w wr) (fun i _ => n - (intOf i).toNat)
  case atStart => exact ⟨0, Nat.zero_le _, rfl, fun j hj => absurd hj (by omega), Drawn.refl _⟩
  case round =>
    obtain ⟨k, hk, rfl, hok, hD⟩ := hrel
    have Hok := Lib.hid hok
    clear hok
    have HL := Lib.hid H.out.1
    by_cases hlt : k < n
    · obtain ⟨ad, rfl, hb, hl, hd⟩ := (H.out.drawn hD).at_ hlt
      by_cases h1 : 0 ≤ Tr.l xs k ∧ Tr.l xs k ≤ 5
      · have h1' : Lab.ok (Tr.l xs k) = true := by simp [Lab.ok, h1]
        by_cases h2 : 0 ≤ Tr.d xs k ∧ Tr.d xs k ≤ 12
        · have h2' : decide (0 ≤ Tr.d xs k ∧ Tr.d xs k ≤ 12) = true := by simpa using h2
          by_cases hk0 : k = 0
          · have e1 : ((k : Int) == 0) = true := by simp [hk0]
            have e2 : decide (0 < k) = false := by simp; omega
            by_cases h3 : Tr.d xs k = 0
            · have e3 : (Tr.d xs k == 0) = true := by simpa using h3
              have Hk := Lib.hid (show Tr.okAt xs k = true by simp [Tr.okAt]; omega)
              clear h1 h2 h3 hk0
              go_wp2
              go_quiet (first
                | (go_at_call 33; exact quiet_same (specLabelOk_any _ _))
                | (go_at_call 34; exact quiet_same (l1In_any _ _ _ _)))
              go_wp2
              go_roundw
              case rel => exact ⟨k + 1, by omega, by go_num, Tr.okTo_succ Hok.out Hk.out, hD.drewN _⟩
              case measure => simp [intOf]; omega
            · have e3 : (Tr.d xs k == 0) = false := by simpa using h3
              have Hf := Lib.hid (Tr.not_ok (xs := xs) (k := k) (by rw [HL.out]; exact hlt) (by simp [Tr.okAt]; omega))
              clear h1 h2 h3 hk0
              go_wp2
              go_quiet (first
                | (go_at_call 33; exact quiet_same (specLabelOk_any _ _))
                | (go_at_call 34; exact quiet_same (l1In_any _ _ _ _)))
              go_wp2
              go_ret
              exact ⟨Kit.ret_bool Hf.out.symm, hD.drewN _⟩
          · have e1 : ((k : Int) == 0) = false := by simp [hk0]
            have e2 : decide (0 < k) = true := by simp; omega
            obtain ⟨hl', hd'⟩ := (H.out.drawn hD).here (show k - 1 < n by omega)
            by_cases h3 : Tr.d xs k = 0
            · have e3 : (Tr.d xs k == 0) = true := by simpa using h3
              have Hf := Lib.hid (Tr.not_ok (xs := xs) (k := k) (by rw [HL.out]; exact hlt) (by simp [Tr.okAt]; omega))
              clear h1 h2 h3 hk0
              go_wp2
              go_quiet (first
                | (go_at_call 33; exact quiet_same (specLabelOk_any _ _))
                | (go_at_call 34; exact quiet_same (l1In_any _ _ _ _)))
              go_wp2
              go_ret
              exact ⟨Kit.ret_bool Hf.out.symm, hD.drewN _⟩
            · have e3 : (Tr.d xs k == 0) = false := by simpa using h3
              have a1 : IntKind.i64.wrap ((k : Int) - 1) = (k : Int) - 1 := Kit.w64 (by omega) (by omega)
              have a2 : ((k : Int) - 1).toNat = k - 1 := by omega
              have a3 : (1 : Int) ≤ (k : Int) := by omega
              have a4 : (k : Int) - 1 < (n : Int) := by omega
              have a5 : IntKind.i64.wrap (Tr.d xs (k - 1) + 1) = Tr.d xs (k - 1) + 1 := by
                have := Tr.okTo_at (Hok.out) (show k - 1 < k by omega)
                exact Kit.w64 (by omega) (by omega)
              by_cases h4 : Tr.d xs k ≤ Tr.d xs (k - 1) + 1
              · have e4 : decide (Tr.d xs (k - 1) + 1 < Tr.d xs k) = false := by simpa using h4
                have Hk := Lib.hid (show Tr.okAt xs k = true by simp [Tr.okAt]; omega)
                clear h1 h2 h3 h4 hk0
                go_wp2
                go_quiet (first
                  | (go_at_call 33; exact quiet_same (specLabelOk_any _ _))
                  | (go_at_call 34; exact quiet_same (l1In_any _ _ _ _)))
                clear a1 a2 a3 a4 a5
                go_wp2
                go_roundw
                case rel => exact ⟨k + 1, by omega, by go_num, Tr.okTo_succ Hok.out Hk.out, hD.drewN _⟩
                case measure => simp [intOf]; omega
              · have e4 : decide (Tr.d xs (k - 1) + 1 < Tr.d xs k) = true := by simpa using h4
                have Hf := Lib.hid (Tr.not_ok (xs := xs) (k := k) (by rw [HL.out]; exact hlt) (by simp [Tr.okAt]; omega))
                clear h1 h2 h3 h4 hk0
                go_wp2
                go_quiet (first
                  | (go_at_call 33; exact quiet_same (specLabelOk_any _ _))
                  | (go_at_call 34; exact quiet_same (l1In_any _ _ _ _)))
                clear a1 a2 a3 a4 a5
                go_wp2
                go_ret
                exact ⟨Kit.ret_bool Hf.out.symm, hD.drewN _⟩
        · have h2' : decide (0 ≤ Tr.d xs k ∧ Tr.d xs k ≤ 12) = false := by simpa using h2
          have Hf := Lib.hid (Tr.not_ok (xs := xs) (k := k) (by rw [HL.out]; exact hlt) (by simp [Tr.okAt]; omega))
          clear h1 h2
          go_wp2
          go_quiet (first
            | (go_at_call 33; exact quiet_same (specLabelOk_any _ _))
            | (go_at_call 34; exact quiet_same (l1In_any _ _ _ _)))
          go_wp2
          go_ret
          exact ⟨Kit.ret_bool Hf.out.symm, hD.drewN _⟩
      · have h1' : Lab.ok (Tr.l xs k) = false := by simpa [Lab.ok] using h1
        have Hf := Lib.hid (Tr.not_ok (xs := xs) (k := k) (by rw [HL.out]; exact hlt) (by simp [Tr.okAt]; omega))
        clear h1
        go_wp2
        go_quiet (first
          | (go_at_call 33; exact quiet_same (specLabelOk_any _ _))
          | (go_at_call 34; exact quiet_same (l1In_any _ _ _ _)))
        go_wp2
        go_ret
        exact ⟨Kit.ret_bool Hf.out.symm, hD.drewN _⟩
    · obtain rfl : k = n := by omega
      have Hs := Lib.hid (Tr.ok_size (xs := xs) (by rw [HL.out]; exact Hok.out))
      go_wp2_with (go_at_call 34; refine (l1In_any _ _ _ _).mono ?_; rintro e w' ⟨rfl, rfl⟩)
      go_ret
      exact ⟨Kit.ret_bool (by rw [Hs.out, HL.out, ← Bool.decide_and, decide_eq_decide]; omega), hD⟩

end Go.Proofs.Ytnfjdlocmdgefaa

/- Contracts (AtS). -/
namespace Go.Proofs.Ytnfjdlocmdgefaa
open Go.RowKit
set_option linter.unusedVariables false

set_option maxHeartbeats 800000 in
set_option maxRecDepth 100000 in
theorem l3At_any (A : Option Addr) (n c : Nat) (xs : Tr) (i : Int) (w : World) (h : NdIn w w.heap.size A n xs) (hn : n ≤ 1048576) :
    Calls Try.prog 42 #[.slice A n c, .int .i64 i] w fun e w' => e = .returned (.bool (Tr.has xs i)) ∧ Drawn w w' := by
  have H := Lib.hid h
  clear h
  have HL := Lib.hid H.out.1
  rcases hok : Tr.ok xs with _ | _
  · have Hf := Lib.hid (show Tr.has xs i = false by simp [Tr.has, hok])
    have Hok := Lib.hid hok
    clear hok
    go_enter Try.func42, Try.ntmps42
    go_wp2_with fail
    refine (specTreeOk_any _ _ _ xs _ H.out hn).mono ?_
    rintro e w1 ⟨rfl, hd⟩
    rw [Hok.out]
    go_wp2
    go_ret
    exact ⟨Kit.ret_bool Hf.out.symm, hd⟩
  · have h1 := (Tr.ok_iff.1 hok).2
    have hn1 : 1 ≤ n := by rw [← HL.out]; omega
    have Hok := Lib.hid hok
    clear h1 hok
    go_enter Try.func42, Try.ntmps42
    go_wp2_with fail
    refine (specTreeOk_any _ _ _ xs _ H.out hn).mono ?_
    rintro e w1 ⟨rfl, hd⟩
    rw [Hok.out]
    go_wp2_with (go_at_call 34; refine (l1In_any _ _ _ _).mono ?_; rintro e w' ⟨rfl, rfl⟩)
    go_ret
    refine ⟨Kit.ret_bool ?_, hd⟩
    simp [Tr.has, Hok.out, HL.out]
    rw [← Bool.decide_and, ← Bool.decide_and, decide_eq_decide]
    omega

end Go.Proofs.Ytnfjdlocmdgefaa

/- Contracts (EndOfS). -/
namespace Go.Proofs.Ytnfjdlocmdgefaa
open Go.RowKit
set_option linter.unusedVariables false

set_option maxHeartbeats 800000 in
set_option maxRecDepth 100000 in
theorem specEndOf_any (A : Option Addr) (n c : Nat) (xs : Tr) (i : Int) (w : World) (h : NdIn w w.heap.size A n xs) (hn : n ≤ 1048576) :
    Calls Try.prog 73 #[.slice A n c, .int .i64 i] w fun e w' => e = .returned (.int .i64 (Tr.endOf xs i)) ∧ Drawn w w' := by
  have H := Lib.hid h
  clear h
  have HL := Lib.hid H.out.1
  rcases hok : Tr.has xs i with _ | _
  · have Hf := Lib.hid (show Tr.endOf xs i = -1 by simp [Tr.endOf, hok])
    have Hok := Lib.hid hok
    clear hok
    go_enter Try.func73, Try.ntmps73
    go_wp2_with fail
    refine (l3At_any _ _ _ xs _ _ H.out hn).mono ?_
    rintro e w1 ⟨rfl, hd⟩
    rw [Hok.out]
    go_wp2
    go_ret
    exact ⟨Kit.ret_int Hf.out.symm, hd⟩
  · have h1 := (Tr.has_iff.1 hok).2
    rw [HL.out] at h1
    have Hf := Lib.hid (show Tr.endOf xs i = Tr.endN xs i.toNat by simp [Tr.endOf, hok])
    have Hok := Lib.hid hok
    clear hok
    obtain ⟨j, rfl⟩ := Int.eq_ofNat_of_zero_le h1.1
    have hj : j < n := by omega
    clear h1
    go_enter Try.func73, Try.ntmps73
    go_wp2_with fail
    refine (l3At_any _ _ _ xs _ _ H.out hn).mono ?_
    rintro e w1 ⟨rfl, hd1⟩
    have Hd1 := Lib.hid hd1
    have H1 := Lib.hid (H.out.drawn Hd1.out)
    clear hd1
    rw [Hok.out]
    go_wp2
    go_loopw [5] (fun kv wr => ∃ k : Nat, j < k ∧ k ≤ n ∧ kv = .int .i64 k ∧ (∀ m, j < m → m < k → Tr.d xs j < Tr.d xs m) ∧ Drawn w1 wr) (fun k _ => n - (intOf k).toNat)
    case atStart => exact ⟨j + 1, by omega, by omega, by go_num, fun m h1 h2 => absurd h1 (by omega), Drawn.refl _⟩
    case round =>
      obtain ⟨k, hjk, hk, rfl, hall, hD⟩ := hrel
      have Hall := Lib.hid hall
      clear hall
      have hk0 : (0 : Int) ≤ (k : Int) := by omega
      have hj0 : (0 : Int) ≤ (j : Int) := by omega
      by_cases hlt : k < n
      · have hltd : decide (k < n) = true := by simpa using hlt
        obtain ⟨ad, rfl, hb, hl, hd⟩ := (H1.out.drawn hD).at_ hlt
        obtain ⟨hl', hd'⟩ := (H1.out.drawn hD).here hj
        clear hl hl'
        by_cases hgt : Tr.d xs j < Tr.d xs k
        · have hg : decide (Tr.d xs j < Tr.d xs k) = true := by simpa using hgt
          have Hg := Lib.hid hgt
          clear hgt
          go_wp2
          go_quiet (fail)
          go_wp2
          go_roundw
          case rel => exact ⟨k + 1, by omega, by omega, by go_num, fun m h1 h2 => by
            rcases Nat.lt_succ_iff_lt_or_eq.1 h2 with h' | rfl
            · exact Hall.out m h1 h'
            · exact Hg.out, hD.drewN _⟩
          case measure => simp [intOf]; omega
        · have hg : decide (Tr.d xs j < Tr.d xs k) = false := by simpa using hgt
          have He := Lib.hid (Tr.endN_is (xs := xs) hjk (by rw [HL.out]; exact hk) Hall.out (.inr (by omega)))
          clear hgt
          go_wp2
          go_quiet (fail)
          go_wp2
          go_ret
          exact ⟨Kit.ret_int (by rw [Hf.out, Int.toNat_natCast, He.out]), Hd1.out.trans (hD.drewN _)⟩
      · have hltd : decide (k < n) = false := by simpa using hlt
        obtain rfl : k = n := by omega
        have He := Lib.hid (Tr.endN_is (xs := xs) hjk (by rw [HL.out]; exact hk) Hall.out (.inl HL.out.symm))
        go_wp2
        go_quiet (fail)
        go_wp2
        go_ret
        exact ⟨Kit.ret_int (by rw [Hf.out, Int.toNat_natCast, He.out]), Hd1.out.trans (hD.drewN _)⟩

end Go.Proofs.Ytnfjdlocmdgefaa

/- Contracts (PostS). -/
namespace Go.Proofs.Ytnfjdlocmdgefaa
open Go.RowKit
set_option linter.unusedVariables false

def Zs.up (l : List Nat) : List Int := l.map fun (m : Nat) => (m : Int)
end Go.Proofs.Ytnfjdlocmdgefaa

/- Contracts (Dst). -/
namespace Go.Proofs.Ytnfjdlocmdgefaa
open Go.RowKit
set_option linter.unusedVariables false

/-! The distances of two trees under costs, as numbers; what a table under way holds. -/
def Co.cs (k : Co) : Cs := ⟨Co.del k, Co.ins k, Co.rel k⟩
section
variable (xs ys : Tr) (k : Co)
/-- forests from place p to place a (of the first) and from q to b (of the second) -/
def RR (p a q b : Nat) : Int := RD (Co.cs k) (Tr.la xs) (Tr.la ys) (Tr.xa xs) (Tr.xa ys) p a q b
/-- the trees at two places -/
def TT (a b : Nat) : Int := TD (Co.cs k) (Tr.la xs) (Tr.la ys) (Tr.xa xs) (Tr.xa ys) a b
end
theorem Co.fit3 {k : Co} (h : Co.ok k = true) : Zs.fit k.d 6 = true ∧ Zs.fit k.i 6 = true ∧ Zs.fit k.r 36 = true := by
  simp only [Co.ok, Bool.and_eq_true] at h
  exact ⟨h.1.1.1, h.1.1.2, h.1.2⟩
theorem Co.nonneg' (k : Co) : (∀ a, 0 ≤ Co.del k a ∧ Co.del k a ≤ 1000) ∧ (∀ a, 0 ≤ Co.ins k a ∧ Co.ins k a ≤ 1000) ∧ ∀ a b, 0 ≤ Co.rel k a b ∧ Co.rel k a b ≤ 1000 := by
  refine ⟨fun a => ?_, fun a => ?_, fun a b => ?_⟩
  · unfold Co.del
    split
    · rename_i h
      simp only [Bool.and_eq_true] at h
      have := Zs.fit_iff.1 (Co.fit3 h.1).1
      have hl : 0 ≤ a ∧ a ≤ 5 := by simpa [Lab.ok] using h.2
      exact this.2 a.toNat (by omega)
    · omega
  · unfold Co.ins
    split
    · rename_i h
      simp only [Bool.and_eq_true] at h
      have := Zs.fit_iff.1 (Co.fit3 h.1).2.1
      have hl : 0 ≤ a ∧ a ≤ 5 := by simpa [Lab.ok] using h.2
      exact this.2 a.toNat (by omega)
    · omega
  · unfold Co.rel
    split
    · rename_i h
      simp only [Bool.and_eq_true] at h
      have := Zs.fit_iff.1 (Co.fit3 h.1.1).2.2
      have hl : 0 ≤ a ∧ a ≤ 5 := by simpa [Lab.ok] using h.1.2
      have hm : 0 ≤ b ∧ b ≤ 5 := by simpa [Lab.ok] using h.2
      exact this.2 (a * 6 + b).toNat (by omega)
    · omega
section
variable {xs : Tr} (hok : Tr.ok xs = true)
include hok
theorem Tr.len24 : 1 ≤ xs.length ∧ xs.length ≤ 24 := (Tr.ok_iff.1 hok).2
theorem Tr.xa_last : Tr.xa xs (xs.length - 1) = Tr.l xs 0 := by
  have h1 := (Tr.ok_iff.1 hok).2
  obtain ⟨i, a, b, _, d, _⟩ := Tr.la_at hok (p := xs.length - 1) (by omega)
  have h0 := Tr.rk_inj hok (i := 0) (j := i) (by omega) a (by
    rw [b]
    unfold Tr.rk
    rw [Tr.endN_zero hok, Tr.dn_zero hok]
    omega)
  rw [d, ← h0]
theorem Tr.lfs_len : (Tr.lfs xs).length = xs.length := by rw [Tr.lfs_length, Tr.post_length hok]
theorem Tr.krs_lt {q : Nat} (hq : q ∈ Tr.krs xs) : q < xs.length := by
  have hlen := Tr.lfs_len hok
  unfold Tr.krs Tr.krTo at hq
  rw [hlen] at hq
  simp only [List.mem_filter, List.mem_range] at hq
  exact hq.1
end
section
variable {xs ys : Tr} {k : Co}
theorem TT_eq (a b : Nat) : TT xs ys k a b = RR xs ys k (Tr.la xs a) (a + 1) (Tr.la ys b) (b + 1) := rfl
end
theorem idx_inj {m a b x y : Nat} (hb : b < m) (hy : y < m) (h : a * m + b = x * m + y) : a = x ∧ b = y := by
  have h1 : (b + m * a) / m = (y + m * x) / m := by rw [Nat.mul_comm m a, Nat.mul_comm m x]; congr 1; omega
  rw [Nat.add_mul_div_left _ _ (by omega), Nat.add_mul_div_left _ _ (by omega), Nat.div_eq_of_lt hb, Nat.div_eq_of_lt hy] at h1
  have : a = x := by omega
  subst this
  exact ⟨rfl, by omega⟩
theorem idx_lt {n m a b : Nat} (ha : a < n) (hb : b < m) : a * m + b < n * m := by
  have : (a + 1) * m ≤ n * m := Nat.mul_le_mul_right m (by omega)
  rw [Nat.add_mul] at this
  omega
/-- a table of forests from places p and q on under way at places x and y of key roots i and j, and the trees -/
structure Fill (xs ys : Tr) (k : Co) (i j x y : Nat) (F : Nat → Nat → Int) (T0 T : List Int) : Prop where
  f : ∀ a b, Tr.la xs i ≤ a → a ≤ i + 1 → Tr.la ys j ≤ b → b ≤ j + 1 → (a ≤ x ∨ (a = x + 1 ∧ b ≤ y) ∨ b = Tr.la ys j) → F a b = RR xs ys k (Tr.la xs i) a (Tr.la ys j) b
  len : T.length = xs.length * ys.length
  t1 : ∀ a b, a ≤ i → b ≤ j → Tr.la xs a = Tr.la xs i → Tr.la ys b = Tr.la ys j → (a < x ∨ (a = x ∧ b < y)) → Zs.at T (a * ys.length + b) = TT xs ys k a b
  t2 : ∀ a b, a < xs.length → b < ys.length → ¬ (a ≤ i ∧ b ≤ j ∧ Tr.la xs a = Tr.la xs i ∧ Tr.la ys b = Tr.la ys j) → Zs.at T (a * ys.length + b) = Zs.at T0 (a * ys.length + b)
/-- what the trees hold ahead of the table of key roots i and j -/
def Ahead (xs ys : Tr) (k : Co) (i j : Nat) (T : List Int) : Prop :=
  ∀ a b, Tr.la xs i ≤ a → a ≤ i → Tr.la ys j ≤ b → b ≤ j → ¬ (Tr.la xs a = Tr.la xs i ∧ Tr.la ys b = Tr.la ys j) → Zs.at T (a * ys.length + b) = TT xs ys k a b
theorem Zs.at_set {T : List Int} {u v : Nat} {z : Int} (hv : v < T.length) : Zs.at (T.set v z) u = if u = v then z else Zs.at T u := by
  unfold Zs.at
  rw [List.getD_eq_getElem?_getD, List.getD_eq_getElem?_getD, List.getElem?_set]
  by_cases e : v = u
  · subst e; rw [if_pos rfl, if_pos hv, if_pos rfl]; rfl
  · rw [if_neg e, if_neg (fun h => e h.symm)]
section
variable {xs ys : Tr} {k : Co} {i j x y : Nat} {F F' : Nat → Nat → Int} {T0 T : List Int} (hx : Tr.ok xs = true) (hy : Tr.ok ys = true) (hi : i < xs.length) (hj : j < ys.length)
include hx hy hi hj
/-- the facts of one cell -/
theorem Fill.geo (px : Tr.la xs i ≤ x) (xi : x ≤ i) (qy : Tr.la ys j ≤ y) (yj : y ≤ j) : Tr.la xs i ≤ Tr.la xs x ∧ Tr.la xs x ≤ x ∧ Tr.la ys j ≤ Tr.la ys y ∧ Tr.la ys y ≤ y := by
  have A := Tr.la_nest hx
  have B := Tr.la_nest hy
  have a1 : Tr.la xs i ≤ Tr.la xs x := by
    rcases Nat.lt_or_ge x i with h | h
    · exact (A i hi).2 x px h
    · rw [show x = i by omega]; exact Nat.le_refl _
  have b1 : Tr.la ys j ≤ Tr.la ys y := by
    rcases Nat.lt_or_ge y j with h | h
    · exact (B j hj).2 y qy h
    · rw [show y = j by omega]; exact Nat.le_refl _
  exact ⟨a1, (A x (by omega)).1, b1, (B y (by omega)).1⟩
theorem Fill.reads (h : Fill xs ys k i j x y F T0 T) (px : Tr.la xs i ≤ x) (xi : x ≤ i) (qy : Tr.la ys j ≤ y) (yj : y ≤ j) :
    F x (y + 1) = RR xs ys k (Tr.la xs i) x (Tr.la ys j) (y + 1) ∧ F (x + 1) y = RR xs ys k (Tr.la xs i) (x + 1) (Tr.la ys j) y ∧ F x y = RR xs ys k (Tr.la xs i) x (Tr.la ys j) y ∧
    F (Tr.la xs x) (Tr.la ys y) = RR xs ys k (Tr.la xs i) (Tr.la xs x) (Tr.la ys j) (Tr.la ys y) := by
  obtain ⟨g1, g2, g3, g4⟩ := Fill.geo hx hy hi hj px xi qy yj
  exact ⟨h.f _ _ (by omega) (by omega) (by omega) (by omega) (.inl (Nat.le_refl _)), h.f _ _ (by omega) (by omega) (by omega) (by omega) (.inr (.inl ⟨rfl, Nat.le_refl _⟩)),
    h.f _ _ (by omega) (by omega) (by omega) (by omega) (.inl (Nat.le_refl _)), h.f _ _ (by omega) (by omega) (by omega) (by omega) (.inl g2)⟩
theorem Fill.first (hA : Ahead xs ys k i j T0) (h : Fill xs ys k i j x y F T0 T) (px : Tr.la xs i ≤ x) (xi : x ≤ i) (qy : Tr.la ys j ≤ y) (yj : y ≤ j)
    (e : Tr.la xs x = Tr.la xs i ∧ Tr.la ys y = Tr.la ys j) {v : Int} (hv : v = min (min (F x (y + 1) + Co.del k (Tr.xa xs x)) (F (x + 1) y + Co.ins k (Tr.xa ys y))) (F x y + Co.rel k (Tr.xa xs x) (Tr.xa ys y)))
    (hF : ∀ a b, Tr.la xs i ≤ a → a ≤ i + 1 → Tr.la ys j ≤ b → b ≤ j + 1 → F' a b = if a = x + 1 ∧ b = y + 1 then v else F a b) :
    v = TT xs ys k x y ∧ Fill xs ys k i j x (y + 1) F' T0 (T.set (x * ys.length + y) v) := by
  obtain ⟨g1, g2, g3, g4⟩ := Fill.geo hx hy hi hj px xi qy yj
  obtain ⟨r1, r2, r3, _⟩ := Fill.reads hx hy hi hj h px xi qy yj
  have hvT : v = TT xs ys k x y := by
    rw [hv, r1, r2, r3, ← e.1, ← e.2]
    unfold TT
    rw [TD_rec (Tr.la_nest hx) (Tr.la_nest hy) (by omega) (by omega)]
    rfl
  have hvR : v = RR xs ys k (Tr.la xs i) (x + 1) (Tr.la ys j) (y + 1) := by rw [hvT, TT_eq, e.1, e.2]
  have hlt : x * ys.length + y < T.length := by rw [h.len]; exact idx_lt (by omega) (by omega)
  refine ⟨hvT, ⟨fun a b a1 a2 b1 b2 hc => ?_, by rw [List.length_set, h.len], fun a b a1 b1 la lb hc => ?_, fun a b a1 b1 hn => ?_⟩⟩
  · rw [hF a b a1 a2 b1 b2]
    by_cases c : a = x + 1 ∧ b = y + 1
    · rw [if_pos c, c.1, c.2]; exact hvR
    · rw [if_neg c]; exact h.f a b a1 a2 b1 b2 (by omega)
  · rw [Zs.at_set hlt]
    by_cases c : a * ys.length + b = x * ys.length + y
    · obtain ⟨rfl, rfl⟩ := idx_inj (by omega) (by omega) c
      rw [if_pos rfl]; exact hvT
    · rw [if_neg c]
      refine h.t1 a b a1 b1 la lb ?_
      have : ¬ (a = x ∧ b = y) := fun e => c (by rw [e.1, e.2])
      omega
  · rw [Zs.at_set hlt, if_neg, h.t2 a b a1 b1 hn]
    intro c
    obtain ⟨rfl, rfl⟩ := idx_inj (by omega) (by omega) c
    exact hn ⟨xi, yj, e.1, e.2⟩
theorem Fill.other (hA : Ahead xs ys k i j T0) (h : Fill xs ys k i j x y F T0 T) (px : Tr.la xs i ≤ x) (xi : x ≤ i) (qy : Tr.la ys j ≤ y) (yj : y ≤ j)
    (e : ¬ (Tr.la xs x = Tr.la xs i ∧ Tr.la ys y = Tr.la ys j)) {v : Int} (hv : v = min (min (F x (y + 1) + Co.del k (Tr.xa xs x)) (F (x + 1) y + Co.ins k (Tr.xa ys y))) (F (Tr.la xs x) (Tr.la ys y) + Zs.at T (x * ys.length + y)))
    (hF : ∀ a b, Tr.la xs i ≤ a → a ≤ i + 1 → Tr.la ys j ≤ b → b ≤ j + 1 → F' a b = if a = x + 1 ∧ b = y + 1 then v else F a b) :
    Fill xs ys k i j x (y + 1) F' T0 T := by
  obtain ⟨g1, g2, g3, g4⟩ := Fill.geo hx hy hi hj px xi qy yj
  obtain ⟨r1, r2, _, r4⟩ := Fill.reads hx hy hi hj h px xi qy yj
  have hT : Zs.at T (x * ys.length + y) = TT xs ys k x y := by
    rw [h.t2 x y (by omega) (by omega) (fun c => e ⟨c.2.2.1, c.2.2.2⟩)]
    exact hA x y px xi qy yj e
  have hvR : v = RR xs ys k (Tr.la xs i) (x + 1) (Tr.la ys j) (y + 1) := by
    rw [hv, r1, r2, r4, hT]
    unfold RR TT
    rw [RD_trees (Tr.la_nest hx) (Tr.la_nest hy) g1 (by omega) g3 (by omega)]
    rfl
  refine ⟨fun a b a1 a2 b1 b2 hc => ?_, h.len, fun a b a1 b1 la lb hc => ?_, h.t2⟩
  · rw [hF a b a1 a2 b1 b2]
    by_cases c : a = x + 1 ∧ b = y + 1
    · rw [if_pos c, c.1, c.2]; exact hvR
    · rw [if_neg c]; exact h.f a b a1 a2 b1 b2 (by omega)
  · refine h.t1 a b a1 b1 la lb ?_
    have : ¬ (a = x ∧ b = y) := fun c => e (by rw [← c.1, ← c.2]; exact ⟨la, lb⟩)
    omega
/-- borders done, no cell yet -/
theorem Fill.start (hl : T.length = xs.length * ys.length) (h1 : ∀ a, Tr.la xs i ≤ a → a ≤ i + 1 → F a (Tr.la ys j) = RR xs ys k (Tr.la xs i) a (Tr.la ys j) (Tr.la ys j))
    (h2 : ∀ b, Tr.la ys j ≤ b → b ≤ j + 1 → F (Tr.la xs i) b = RR xs ys k (Tr.la xs i) (Tr.la xs i) (Tr.la ys j) b) : Fill xs ys k i j (Tr.la xs i) (Tr.la ys j) F T T := by
  refine ⟨fun a b a1 a2 b1 b2 hc => ?_, hl, fun a b a1 b1 la lb hc => ?_, fun _ _ _ _ _ => rfl⟩
  · rcases hc with c | c | c
    · have : a = Tr.la xs i := by omega
      subst this; exact h2 b b1 b2
    · have : b = Tr.la ys j := by omega
      subst this; exact h1 a a1 a2
    · subst c; exact h1 a a1 a2
  · have := (Tr.la_nest hx a (by omega)).1
    have := (Tr.la_nest hy b (by omega)).1
    omega
end
section
variable {xs ys : Tr} {k : Co} {i j x y : Nat} {F F' : Nat → Nat → Int} {T0 T : List Int}
/-- the value that is read of the trees -/
theorem Fill.tree (hi : i < xs.length) (hj : j < ys.length) (hA : Ahead xs ys k i j T0) (h : Fill xs ys k i j x y F T0 T) (px : Tr.la xs i ≤ x) (xi : x ≤ i) (qy : Tr.la ys j ≤ y) (yj : y ≤ j) (e : ¬ (Tr.la xs x = Tr.la xs i ∧ Tr.la ys y = Tr.la ys j)) :
    Zs.at T (x * ys.length + y) = TT xs ys k x y := by
  rw [h.t2 x y (by omega) (by omega) (fun c => e ⟨c.2.2.1, c.2.2.2⟩)]
  exact hA x y px xi qy yj e
theorem Fill.next (hy : Tr.ok ys = true) (hj : j < ys.length) (h : Fill xs ys k i j x (j + 1) F T0 T) : Fill xs ys k i j (x + 1) (Tr.la ys j) F T0 T := by
  have g := (Tr.la_nest hy j hj).1
  refine ⟨fun a b a1 a2 b1 b2 hc => h.f a b a1 a2 b1 b2 (by omega), h.len, fun a b a1 b1 la lb hc => ?_, h.t2⟩
  have := (Tr.la_nest hy b (by omega)).1
  exact h.t1 a b a1 b1 la lb (by omega)
end
/-! over the pairs of key roots -/
def Tr.kr (xs : Tr) (a : Nat) : Nat := (Tr.krs xs).getD a 0
theorem Tr.kr_mem {xs : Tr} {a : Nat} (h : a < (Tr.krs xs).length) : Tr.kr xs a ∈ Tr.krs xs := by
  unfold Tr.kr
  rw [List.getD_eq_getElem?_getD, List.getElem?_eq_getElem h]
  exact List.getElem_mem h
theorem Tr.kr_rise {xs : Tr} {a b : Nat} (hab : a < b) (hb : b < (Tr.krs xs).length) : Tr.kr xs a < Tr.kr xs b := by
  have := Tr.krs_rise hab hb
  unfold Tr.kr
  rw [List.getD_eq_getElem?_getD, List.getD_eq_getElem?_getD, List.getElem?_eq_getElem hb, List.getElem?_eq_getElem (by omega)]
  exact this
/-- the trees after the first pairs of key roots: all of the first kk, and the first ll beside the next one -/
structure Roots (xs ys : Tr) (k : Co) (kk ll : Nat) (T : List Int) : Prop where
  len : T.length = xs.length * ys.length
  t : ∀ a b a' b', a < xs.length → b < ys.length → a' < (Tr.krs xs).length → b' < (Tr.krs ys).length → (a' < kk ∨ (a' = kk ∧ b' < ll)) → a ≤ Tr.kr xs a' → b ≤ Tr.kr ys b' → Tr.la xs a = Tr.la xs (Tr.kr xs a') → Tr.la ys b = Tr.la ys (Tr.kr ys b') →
    Zs.at T (a * ys.length + b) = TT xs ys k a b
/-- the place of a key root -/
theorem Tr.kr_of {xs : Tr} (hok : Tr.ok xs = true) {p : Nat} (hp : p < xs.length) : ∃ a, a < (Tr.krs xs).length ∧ p ≤ Tr.kr xs a ∧ Tr.la xs (Tr.kr xs a) = Tr.la xs p := by
  obtain ⟨q, h1, h2, h3, h4⟩ := Tr.kr_ex hok hp
  obtain ⟨a, ha, e⟩ := List.getElem_of_mem h1
  refine ⟨a, ha, ?_⟩
  have : Tr.kr xs a = q := by
    unfold Tr.kr
    rw [List.getD_eq_getElem?_getD, List.getElem?_eq_getElem ha, e]
    rfl
  rw [this]
  exact ⟨h2, h4⟩
/-- two key roots with the same first leaf are one -/
theorem Tr.kr_same {xs : Tr} (hok : Tr.ok xs = true) {a b : Nat} (ha : a < (Tr.krs xs).length) (hb : b < (Tr.krs xs).length) (h : Tr.la xs (Tr.kr xs a) = Tr.la xs (Tr.kr xs b)) : a = b := by
  rcases Nat.lt_trichotomy a b with c | c | c
  · exact absurd h.symm (Tr.kr_last hok (Tr.kr_mem ha) (Tr.krs_lt hok (Tr.kr_mem hb)) (Tr.kr_rise c hb))
  · exact c
  · exact absurd h (Tr.kr_last hok (Tr.kr_mem hb) (Tr.krs_lt hok (Tr.kr_mem ha)) (Tr.kr_rise c ha))
section
variable {xs ys : Tr} {k : Co} {kk ll : Nat} {T T' : List Int} (hx : Tr.ok xs = true) (hy : Tr.ok ys = true)
include hx hy
theorem Roots.ahead (hk : kk < (Tr.krs xs).length) (hl : ll < (Tr.krs ys).length) (h : Roots xs ys k kk ll T) : Ahead xs ys k (Tr.kr xs kk) (Tr.kr ys ll) T := by
  intro a b a1 a2 b1 b2 hn
  have i1 := Tr.krs_lt hx (Tr.kr_mem hk)
  have j1 := Tr.krs_lt hy (Tr.kr_mem hl)
  obtain ⟨a', c1, c2, c3⟩ := Tr.kr_of hx (p := a) (by omega)
  obtain ⟨b', d1, d2, d3⟩ := Tr.kr_of hy (p := b) (by omega)
  refine h.t a b a' b' (by omega) (by omega) c1 d1 ?_ c2 d2 c3.symm d3.symm
  by_cases e : Tr.la xs a = Tr.la xs (Tr.kr xs kk)
  · have hkk := Tr.kr_same hx c1 hk (c3.trans e)
    have e2 : Tr.la ys b ≠ Tr.la ys (Tr.kr ys ll) := fun e2 => hn ⟨e, e2⟩
    have := Tr.kr_under hy j1 b1 b2 e2 (Tr.krs_lt hy (Tr.kr_mem d1)) d2 d3
    refine .inr ⟨hkk, ?_⟩
    rcases Nat.lt_trichotomy b' ll with g | g | g
    · exact g
    · subst g; omega
    · have := Tr.kr_rise g d1; omega
  · have := Tr.kr_under hx i1 a1 a2 e (Tr.krs_lt hx (Tr.kr_mem c1)) c2 c3
    refine .inl ?_
    rcases Nat.lt_trichotomy a' kk with g | g | g
    · exact g
    · subst g; omega
    · have := Tr.kr_rise g c1; omega
theorem Roots.all (h : Roots xs ys k (Tr.krs xs).length 0 T) {a b : Nat} (ha : a < xs.length) (hb : b < ys.length) : Zs.at T (a * ys.length + b) = TT xs ys k a b := by
  obtain ⟨a', c1, c2, c3⟩ := Tr.kr_of hx ha
  obtain ⟨b', d1, d2, d3⟩ := Tr.kr_of hy hb
  exact h.t a b a' b' ha hb c1 d1 (.inl c1) c2 d2 c3.symm d3.symm
end
section
variable {xs ys : Tr} {k : Co} {kk ll : Nat} {T T' : List Int}
theorem Roots.step (hk : kk < (Tr.krs xs).length) (hl : ll < (Tr.krs ys).length) (h : Roots xs ys k kk ll T) {F : Nat → Nat → Int} {y : Nat}
    (hf : Fill xs ys k (Tr.kr xs kk) (Tr.kr ys ll) (Tr.kr xs kk + 1) y F T T') : Roots xs ys k kk (ll + 1) T' := by
  refine ⟨hf.len, fun a b a' b' ha hb ha' hb' hc a1 b1 la lb => ?_⟩
  by_cases e : a ≤ Tr.kr xs kk ∧ b ≤ Tr.kr ys ll ∧ Tr.la xs a = Tr.la xs (Tr.kr xs kk) ∧ Tr.la ys b = Tr.la ys (Tr.kr ys ll)
  · exact hf.t1 a b e.1 e.2.1 e.2.2.1 e.2.2.2 (.inl (by omega))
  · rw [hf.t2 a b ha hb e]
    refine h.t a b a' b' ha hb ha' hb' ?_ a1 b1 la lb
    rcases hc with c | ⟨c1, c2⟩
    · exact .inl c
    · refine .inr ⟨c1, ?_⟩
      subst c1
      rcases Nat.lt_or_ge b' ll with g | g
      · exact g
      · have : b' = ll := by omega
        subst this
        exact absurd ⟨a1, b1, la, lb⟩ e
theorem Roots.next (h : Roots xs ys k kk (Tr.krs ys).length T) : Roots xs ys k (kk + 1) 0 T :=
  ⟨h.len, fun a b a' b' ha hb ha' hb' hc a1 b1 la lb => h.t a b a' b' ha hb ha' hb' (by omega) a1 b1 la lb⟩
theorem Roots.start (hl : T.length = xs.length * ys.length) : Roots xs ys k 0 0 T := ⟨hl, fun a b a' b' _ _ _ _ hc => by omega⟩
end
def Tr.rootDist (xs ys : Tr) (k : Co) : Int := if Tr.ok xs && Tr.ok ys && Co.ok k then RR xs ys k 0 (xs.length - 1) 0 (ys.length - 1) + Co.rel k (Tr.l xs 0) (Tr.l ys 0) else -1
end Go.Proofs.Ytnfjdlocmdgefaa

/- Contracts (Com). -/
namespace Go.Proofs.Ytnfjdlocmdgefaa
open Go.RowKit
set_option linter.unusedVariables false

/-- where b leads, by the first k pairs -/
def Cp.out (ns : Tr) (b : Int) : Nat → List Int
  | 0 => []
  | k + 1 => if b = Tr.l ns k then Cp.out ns b k ++ [Tr.d ns k] else Cp.out ns b k
/-- the pairs of a by way of b -/
def Cp.row (a : Int) (zs : List Int) : Tr := zs.map fun z => (a, z)
def Cp.to (ms ns : Tr) : Nat → Tr
  | 0 => []
  | i + 1 => Cp.to ms ns i ++ Cp.row (Tr.l ms i) (Cp.out ns (Tr.d ms i) ns.length)
def Cp.all (ms ns : Tr) : Tr := Cp.to ms ns ms.length
theorem Cp.out_yes {ns : Tr} {b : Int} {k : Nat} (h : b = Tr.l ns k) : Cp.out ns b (k + 1) = Cp.out ns b k ++ [Tr.d ns k] := by rw [Cp.out, if_pos h]
theorem Cp.out_no {ns : Tr} {b : Int} {k : Nat} (h : ¬ b = Tr.l ns k) : Cp.out ns b (k + 1) = Cp.out ns b k := by rw [Cp.out, if_neg h]
end Go.Proofs.Ytnfjdlocmdgefaa

/- Contracts (Bm). -/
namespace Go.Proofs.Ytnfjdlocmdgefaa
open Go.RowKit
set_option linter.unusedVariables false

/-- pairs of a mapping of least cost between two ranges of places; cmb lays a pair beside what stands ahead of it and below it -/
def Bm.go (cmb : Tr → Nat → Nat → Tr → Tr) (xs ys : Tr) (k : Co) (i j p q : Nat) : Tr :=
  if j ≤ i ∨ q ≤ p then []
  else if RR xs ys k i j p q = RR xs ys k i (j - 1) p q + Co.del k (Tr.xa xs (j - 1)) then Bm.go cmb xs ys k i (j - 1) p q
  else if RR xs ys k i j p q = RR xs ys k i j p (q - 1) + Co.ins k (Tr.xa ys (q - 1)) then Bm.go cmb xs ys k i j p (q - 1)
  else cmb (Bm.go cmb xs ys k i (min (j - 1) (max i (Tr.la xs (j - 1)))) p (min (q - 1) (max p (Tr.la ys (q - 1))))) (j - 1) (q - 1)
    (Bm.go cmb xs ys k (min (j - 1) (max i (Tr.la xs (j - 1)))) (j - 1) (min (q - 1) (max p (Tr.la ys (q - 1)))) (q - 1))
termination_by (j - i) + (q - p)
decreasing_by all_goals omega
/-- the last ones of both together -/
def Bm.mt (cmb : Tr → Nat → Nat → Tr → Tr) (xs ys : Tr) (k : Co) (i j p q : Nat) : Tr :=
  cmb (Bm.go cmb xs ys k i (max i (Tr.la xs (j - 1))) p (max p (Tr.la ys (q - 1)))) (j - 1) (q - 1)
    (Bm.go cmb xs ys k (max i (Tr.la xs (j - 1))) (j - 1) (max p (Tr.la ys (q - 1))) (q - 1))
/-- the node at a place -/
def Tr.nd (xs : Tr) (u : Nat) : Nat := (Tr.post xs).getD u 0
/-- the model's order: by places, the pair last -/
def Bm.cS (a : Tr) (u v : Nat) (b : Tr) : Tr := a ++ b ++ [((u : Int), (v : Int))]
/-- the program's order: nodes, the pair between -/
def Bm.cP (xs ys : Tr) (a : Tr) (u v : Nat) (b : Tr) : Tr := a ++ [((Tr.nd xs u : Int), (Tr.nd ys v : Int))] ++ b
section
variable {cmb : Tr → Nat → Nat → Tr → Tr} {xs ys : Tr} {k : Co} {i j p q : Nat}
theorem Bm.go_none (h : j ≤ i ∨ q ≤ p) : Bm.go cmb xs ys k i j p q = [] := by rw [Bm.go, if_pos h]
theorem Bm.go_del (h1 : i < j) (h2 : p < q) (h : RR xs ys k i j p q = RR xs ys k i (j - 1) p q + Co.del k (Tr.xa xs (j - 1))) : Bm.go cmb xs ys k i j p q = Bm.go cmb xs ys k i (j - 1) p q := by
  rw [Bm.go, if_neg (by omega), if_pos h]
theorem Bm.go_ins (h1 : i < j) (h2 : p < q) (h : ¬ RR xs ys k i j p q = RR xs ys k i (j - 1) p q + Co.del k (Tr.xa xs (j - 1))) (h' : RR xs ys k i j p q = RR xs ys k i j p (q - 1) + Co.ins k (Tr.xa ys (q - 1))) : Bm.go cmb xs ys k i j p q = Bm.go cmb xs ys k i j p (q - 1) := by
  rw [Bm.go, if_neg (by omega), if_neg h, if_pos h']
theorem Bm.go_both (hx : Tr.ok xs = true) (hy : Tr.ok ys = true) (h1 : i < j) (h2 : p < q) (hj : j ≤ xs.length) (hq : q ≤ ys.length) (h : ¬ RR xs ys k i j p q = RR xs ys k i (j - 1) p q + Co.del k (Tr.xa xs (j - 1))) (h' : ¬ RR xs ys k i j p q = RR xs ys k i j p (q - 1) + Co.ins k (Tr.xa ys (q - 1))) :
    Bm.go cmb xs ys k i j p q = Bm.mt cmb xs ys k i j p q := by
  have a := (Tr.la_nest hx (j - 1) (by omega)).1
  have b := (Tr.la_nest hy (q - 1) (by omega)).1
  rw [Bm.go, if_neg (by omega), if_neg h, if_neg h', show min (j - 1) (max i (Tr.la xs (j - 1))) = max i (Tr.la xs (j - 1)) by omega, show min (q - 1) (max p (Tr.la ys (q - 1))) = max p (Tr.la ys (q - 1)) by omega]
  rfl
/-- what holds of each step holds of the whole -/
theorem Bm.go_ind {M : Nat → Nat → Nat → Nat → Tr → Prop} (hx : Tr.ok xs = true) (hy : Tr.ok ys = true)
    (h0 : ∀ i j p q, j ≤ i ∨ q ≤ p → M i j p q [])
    (h1 : ∀ i j p q L, i < j → p < q → j ≤ xs.length → q ≤ ys.length → RR xs ys k i j p q = RR xs ys k i (j - 1) p q + Co.del k (Tr.xa xs (j - 1)) → M i (j - 1) p q L → M i j p q L)
    (h2 : ∀ i j p q L, i < j → p < q → j ≤ xs.length → q ≤ ys.length → ¬ RR xs ys k i j p q = RR xs ys k i (j - 1) p q + Co.del k (Tr.xa xs (j - 1)) → RR xs ys k i j p q = RR xs ys k i j p (q - 1) + Co.ins k (Tr.xa ys (q - 1)) → M i j p (q - 1) L → M i j p q L)
    (h3 : ∀ i j p q P Q A B, i < j → p < q → j ≤ xs.length → q ≤ ys.length → P = max i (Tr.la xs (j - 1)) → Q = max p (Tr.la ys (q - 1)) → P ≤ j - 1 → Q ≤ q - 1 → ¬ RR xs ys k i j p q = RR xs ys k i (j - 1) p q + Co.del k (Tr.xa xs (j - 1)) → ¬ RR xs ys k i j p q = RR xs ys k i j p (q - 1) + Co.ins k (Tr.xa ys (q - 1)) → RR xs ys k i j p q = RR xs ys k i P p Q + RR xs ys k P (j - 1) Q (q - 1) + Co.rel k (Tr.xa xs (j - 1)) (Tr.xa ys (q - 1)) →
      M i P p Q A → M P (j - 1) Q (q - 1) B → M i j p q (cmb A (j - 1) (q - 1) B)) :
    ∀ (s i j p q : Nat), (j - i) + (q - p) < s → j ≤ xs.length → q ≤ ys.length → M i j p q (Bm.go cmb xs ys k i j p q) := by
  intro s
  induction s with
  | zero => intro i j p q h; omega
  | succ s ih =>
    intro i j p q hs hj hq
    by_cases e : j ≤ i ∨ q ≤ p
    · rw [Bm.go_none e]; exact h0 i j p q e
    · by_cases a : RR xs ys k i j p q = RR xs ys k i (j - 1) p q + Co.del k (Tr.xa xs (j - 1))
      · rw [Bm.go_del (by omega) (by omega) a]; exact h1 i j p q _ (by omega) (by omega) hj hq a (ih i (j - 1) p q (by omega) (by omega) hq)
      · by_cases b : RR xs ys k i j p q = RR xs ys k i j p (q - 1) + Co.ins k (Tr.xa ys (q - 1))
        · rw [Bm.go_ins (by omega) (by omega) a b]; exact h2 i j p q _ (by omega) (by omega) hj hq a b (ih i j p (q - 1) (by omega) hj (by omega))
        · have la1 := (Tr.la_nest hx (j - 1) (by omega)).1
          have lb1 := (Tr.la_nest hy (q - 1) (by omega)).1
          rw [Bm.go_both hx hy (by omega) (by omega) hj hq a b]
          refine h3 i j p q _ _ _ _ (by omega) (by omega) hj hq rfl rfl (by omega) (by omega) a b ?_ (ih _ _ _ _ (by omega) (by omega) (by omega)) (ih _ _ _ _ (by omega) (by omega) (by omega))
          have := RD_both (K := Co.cs k) (x := Tr.xa xs) (y := Tr.xa ys) (Tr.la_nest hx) (Tr.la_nest hy) (i := i) (j := j - 1) (k := p) (l := q - 1) (by omega) (by omega) (by omega) (by omega)
          rw [show j - 1 + 1 = j by omega, show q - 1 + 1 = q by omega] at this
          have t : RR xs ys k i j p q = min (min (RR xs ys k i (j - 1) p q + Co.del k (Tr.xa xs (j - 1))) (RR xs ys k i j p (q - 1) + Co.ins k (Tr.xa ys (q - 1)))) (RR xs ys k i (max i (Tr.la xs (j - 1))) p (max p (Tr.la ys (q - 1))) + RR xs ys k (max i (Tr.la xs (j - 1))) (j - 1) (max p (Tr.la ys (q - 1))) (q - 1) + Co.rel k (Tr.xa xs (j - 1)) (Tr.xa ys (q - 1))) := this
          omega
end
section
variable {xs : Tr} (hok : Tr.ok xs = true)
include hok
theorem Tr.nd_at {u : Nat} (hu : u < xs.length) : Tr.nd xs u < xs.length ∧ Tr.rk xs (Tr.nd xs u) = u ∧ Tr.la xs u = Tr.nd xs u - Tr.dn xs (Tr.nd xs u) ∧ Tr.xa xs u = Tr.l xs (Tr.nd xs u) := by
  obtain ⟨i, h1, h2, h3, h4, h5⟩ := Tr.la_at hok hu
  have : Tr.nd xs u = i := by unfold Tr.nd; rw [List.getD_eq_getElem?_getD, h5]; rfl
  rw [this]
  exact ⟨h1, h2, h3, h4⟩
theorem Tr.nd_rk {i : Nat} (hi : i < xs.length) : Tr.nd xs (Tr.rk xs i) = i := by
  unfold Tr.nd; rw [List.getD_eq_getElem?_getD, Tr.post_rk hok hi]; rfl
/-- ahead of v's first leaf: ahead of v -/
theorem Tr.nd_ahead {u v : Nat} (hv : v < xs.length) (h : u < Tr.la xs v) : Tr.nd xs u < Tr.nd xs v := by
  have l1 := (Tr.la_nest hok v hv).1
  obtain ⟨a1, a2, a3, _⟩ := Tr.nd_at hok (u := u) (by omega)
  obtain ⟨b1, b2, b3, _⟩ := Tr.nd_at hok hv
  rcases Nat.lt_or_ge (Tr.nd xs u) (Tr.nd xs v) with c | c
  · exact c
  · have := Tr.rk_ge hok c a1
    omega
/-- from v's first leaf on: below v -/
theorem Tr.nd_below {u v : Nat} (hv : v < xs.length) (h : Tr.la xs v ≤ u) (huv : u < v) : Tr.nd xs v < Tr.nd xs u ∧ Tr.nd xs u < Tr.endN xs (Tr.nd xs v) := by
  obtain ⟨a1, a2, a3, _⟩ := Tr.nd_at hok (u := u) (by omega)
  obtain ⟨b1, b2, b3, _⟩ := Tr.nd_at hok hv
  have d1 := Tr.dn_le hok a1
  have hlt : Tr.nd xs v < Tr.nd xs u := by
    rcases Nat.lt_trichotomy (Tr.nd xs u) (Tr.nd xs v) with c | c | c
    · by_cases hu : Tr.nd xs v < Tr.endN xs (Tr.nd xs u)
      · have := Tr.rk_under hok a1 c hu; omega
      · have g := Tr.gap_mono hok (i := Tr.endN xs (Tr.nd xs u)) (j := Tr.nd xs v) (by omega) b1
        have e := Tr.endN_dn hok a1
        have r : Tr.rk xs (Tr.nd xs u) = Tr.endN xs (Tr.nd xs u) - 1 - Tr.dn xs (Tr.nd xs u) := rfl
        rcases e.2.2.2 with f | ⟨f1, f2⟩
        · omega
        · omega
    · rw [c] at a2; omega
    · exact c
  refine ⟨hlt, ?_⟩
  rcases Nat.lt_or_ge (Tr.nd xs u) (Tr.endN xs (Tr.nd xs v)) with c | c
  · exact c
  · have := Tr.rk_left hok b1 c a1; omega
theorem Tr.nd_not {u v : Nat} (huv : u ≤ v) (hv : v < xs.length) : Tr.under xs (Tr.nd xs u : Int) (Tr.nd xs v : Int) = false := by
  obtain ⟨a1, a2, a3, _⟩ := Tr.nd_at hok (u := u) (by omega)
  obtain ⟨b1, b2, b3, _⟩ := Tr.nd_at hok hv
  cases e : Tr.under xs (Tr.nd xs u : Int) (Tr.nd xs v : Int) with
  | false => rfl
  | true =>
    simp only [Tr.under, Bool.and_eq_true, decide_eq_true_eq] at e
    obtain ⟨⟨⟨e1, e2⟩, e3⟩, e4⟩ := e
    rw [Tr.endOf_yes e1] at e4
    have := Tr.rk_under hok a1 (by omega) (show Tr.nd xs v < Tr.endN xs (Tr.nd xs u) by omega)
    omega
theorem Tr.has_nd {u : Nat} (hu : u < xs.length) : Tr.has xs (Tr.nd xs u : Int) = true := by
  have := (Tr.nd_at hok hu).1
  rw [Tr.has_iff]
  exact ⟨hok, by omega, by omega⟩
theorem Tr.nd_yes {u v : Nat} (hv : v < xs.length) (h : Tr.la xs v ≤ u) (huv : u < v) : Tr.under xs (Tr.nd xs v : Int) (Tr.nd xs u : Int) = true := by
  obtain ⟨c1, c2⟩ := Tr.nd_below hok hv h huv
  unfold Tr.under
  rw [Tr.has_nd hok hv, Tr.has_nd hok (show u < xs.length by omega), Tr.endOf_yes (Tr.has_nd hok hv), decide_eq_true (by omega), decide_eq_true (by omega)]
  rfl
end

end Go.Proofs.Ytnfjdlocmdgefaa

/- Contracts (Dtb). -/
namespace Go.Proofs.Ytnfjdlocmdgefaa
open Go.RowKit
set_option linter.unusedVariables false

/-! The program's table of distances: one block of 635 cells, the trees' row, the rows that it reads. -/
/-- a row of ints that no store of the table reaches -/
structure RowOff (w : World) (g gt : Nat) (ad : Addr) (n : Nat) (zs : List Int) : Prop where
  len : zs.length = n
  lt : ad.block < w.heap.size
  ng : ad.block ≠ g
  nt : ad.block ≠ gt
  at_ : ∀ k, k < n → w.cell? (ad.add k) = some (.int .i64 (Zs.at zs k))
/-- where the table's parts lie -/
structure DtD where
  g : Nat
  gt : Nat
  a0 : Addr
  a1 : Addr
  a2 : Addr
  b0 : Addr
  b1 : Addr
  b2 : Addr
  k0 : Addr
  k1 : Addr
  k2 : Addr
  ca0 : Nat
  ca1 : Nat
  ca2 : Nat
  cb0 : Nat
  cb1 : Nat
  cb2 : Nat
  ck0 : Nat
  ck1 : Nat
  ck2 : Nat
structure DT (B : Nat) (D : DtD) (xs ys : Tr) (k : Co) (F : Nat → Nat → Int) (T : List Int) (w : World) : Prop where
  gB : B ≤ D.g
  gl : D.g < w.heap.size
  gg : D.gt ≠ D.g
  fz : ∀ off, w.frozen? ⟨D.g, off, none⟩ = false
  h0 : w.cell? ⟨D.g, 0, none⟩ = some (.slice (some D.a0) xs.length D.ca0)
  h1 : w.cell? ⟨D.g, 1, none⟩ = some (.slice (some D.a1) xs.length D.ca1)
  h2 : w.cell? ⟨D.g, 2, none⟩ = some (.slice (some D.a2) (Tr.krs xs).length D.ca2)
  h3 : w.cell? ⟨D.g, 3, none⟩ = some (.slice (some D.b0) ys.length D.cb0)
  h4 : w.cell? ⟨D.g, 4, none⟩ = some (.slice (some D.b1) ys.length D.cb1)
  h5 : w.cell? ⟨D.g, 5, none⟩ = some (.slice (some D.b2) (Tr.krs ys).length D.cb2)
  h6 : w.cell? ⟨D.g, 6, none⟩ = some (.slice (some D.k0) 6 D.ck0)
  h7 : w.cell? ⟨D.g, 7, none⟩ = some (.slice (some D.k1) 6 D.ck1)
  h8 : w.cell? ⟨D.g, 8, none⟩ = some (.slice (some D.k2) 36 D.ck2)
  h9 : w.cell? ⟨D.g, 9, none⟩ = some (.slice (some ⟨D.gt, 0, none⟩) (xs.length * ys.length) (xs.length * ys.length))
  fr : ∀ x y, x < 25 → y < 25 → w.cell? ⟨D.g, 10 + x * 25 + y, none⟩ = some (.int .i64 (F x y))
  row : w.ownsRow B 3 1 (.slice (some ⟨D.gt, 0, none⟩) (xs.length * ys.length) (xs.length * ys.length)) (xs.length * ys.length) (ints T)
  ra0 : RowOff w D.g D.gt D.a0 xs.length (Tr.lab xs)
  ra1 : RowOff w D.g D.gt D.a1 xs.length (Zs.up (Tr.lfs xs))
  ra2 : RowOff w D.g D.gt D.a2 (Tr.krs xs).length (Zs.up (Tr.krs xs))
  rb0 : RowOff w D.g D.gt D.b0 ys.length (Tr.lab ys)
  rb1 : RowOff w D.g D.gt D.b1 ys.length (Zs.up (Tr.lfs ys))
  rb2 : RowOff w D.g D.gt D.b2 (Tr.krs ys).length (Zs.up (Tr.krs ys))
  rk0 : RowOff w D.g D.gt D.k0 6 k.d
  rk1 : RowOff w D.g D.gt D.k1 6 k.i
  rk2 : RowOff w D.g D.gt D.k2 36 k.r
theorem RowOff.keep {w w' : World} {g gt n : Nat} {ad : Addr} {zs : List Int} (h : RowOff w g gt ad n zs) (hs : w.heap.size ≤ w'.heap.size) (hk : ∀ p : Addr, p.block < w.heap.size → p.block ≠ g → p.block ≠ gt → w'.cell? p = w.cell? p) : RowOff w' g gt ad n zs :=
  ⟨h.len, Nat.lt_of_lt_of_le h.lt hs, h.ng, h.nt, fun k hk' => by rw [hk _ (by rw [block_of_add]; exact h.lt) (by rw [block_of_add]; exact h.ng) (by rw [block_of_add]; exact h.nt)]; exact h.at_ k hk'⟩
section
variable {B : Nat} {D : DtD} {xs ys : Tr} {k : Co} {F : Nat → Nat → Int} {T : List Int} {w w' : World}
theorem DT.drawn (h : DT B D xs ys k F T w) (hd : Drawn w w') : DT B D xs ys k F T w' := by obtain ⟨m, rfl⟩ := hd; exact ⟨h.gB, h.gl, h.gg, h.fz, h.h0, h.h1, h.h2, h.h3, h.h4, h.h5, h.h6, h.h7, h.h8, h.h9, h.fr, h.row, ⟨h.ra0.1, h.ra0.2, h.ra0.3, h.ra0.4, h.ra0.5⟩, ⟨h.ra1.1, h.ra1.2, h.ra1.3, h.ra1.4, h.ra1.5⟩, ⟨h.ra2.1, h.ra2.2, h.ra2.3, h.ra2.4, h.ra2.5⟩, ⟨h.rb0.1, h.rb0.2, h.rb0.3, h.rb0.4, h.rb0.5⟩, ⟨h.rb1.1, h.rb1.2, h.rb1.3, h.rb1.4, h.rb1.5⟩, ⟨h.rb2.1, h.rb2.2, h.rb2.3, h.rb2.4, h.rb2.5⟩, ⟨h.rk0.1, h.rk0.2, h.rk0.3, h.rk0.4, h.rk0.5⟩, ⟨h.rk1.1, h.rk1.2, h.rk1.3, h.rk1.4, h.rk1.5⟩, ⟨h.rk2.1, h.rk2.2, h.rk2.3, h.rk2.4, h.rk2.5⟩⟩
end

end Go.Proofs.Ytnfjdlocmdgefaa

/- Contracts (F8). -/
namespace Go.Proofs.Ytnfjdlocmdgefaa
open Go.RowKit
set_option linter.unusedVariables false

/-! The model's table of forests: one row from the key roots' first leaves on. -/
def ix (p q W a b : Nat) : Nat := (a - p) * W + (b - q)
/-- the row f and the trees, beside what stood ahead of f -/
structure F8 (B gt hf nf nm : Nat) (w0 w1 : World) (f T : List Int) (wr : World) : Prop where
  kb : ∀ p : Addr, p.block < hf → p.block ≠ gt → wr.cell? p = w1.cell? p
  rf : wr.ownsRow hf 3 1 (.slice (some ⟨hf, 0, none⟩) nf nf) nf (ints f)
  rt : wr.ownsRow B 3 1 (.slice (some ⟨gt, 0, none⟩) nm nm) nm (ints T)
  bl : Below B w0 wr
section
variable {B gt hf nf nm : Nat} {w0 w1 wr w' : World} {f T : List Int}
theorem F8.drawn (h : F8 B gt hf nf nm w0 w1 f T wr) (hd : Drawn wr w') : F8 B gt hf nf nm w0 w1 f T w' :=
  ⟨fun p h1 h2 => (hd.cell p).trans (h.kb p h1 h2), own_drawn h.rf hd, own_drawn h.rt hd, Drawn.below h.bl hd⟩
theorem F8.row {ad : Addr} {n : Nat} {zs : List Int} (h : F8 B gt hf nf nm w0 w1 f T wr) (hr : RowOff w1 gt gt ad n zs) (hl : ad.block < hf) {k : Nat} (hk : k < n) : wr.cell? (ad.add k) = some (.int .i64 (Zs.at zs k)) := by
  rw [h.kb _ (by rw [block_of_add]; exact hl) (by rw [block_of_add]; exact hr.ng)]
  exact hr.at_ k hk
end

end Go.Proofs.Ytnfjdlocmdgefaa

/- The facts of one cell of the model's table of forests. -/
namespace Go.Proofs.Ytnfjdlocmdgefaa
open Go.RowKit
set_option linter.unusedVariables false

theorem RowOff.made {w : World} {gt n : Nat} {ad : Addr} {zs : List Int} {o : Obj} (h : RowOff w gt gt ad n zs) : RowOff (w.alloc o) gt gt ad n zs :=
  ⟨h.len, by have := h.lt; simp; omega, h.ng, h.nt, fun k hk => by rw [World.cell?_alloc_lt w o _ (by rw [block_of_add]; exact h.lt)]; exact h.at_ k hk⟩
section
variable {B gt hf nf nm : Nat} {ax ay ala alb k0 k1 k2 : Addr} {cx cy e0 e1 e2 : Nat} {xs ys : Tr} {k : Co} {T T1 f : List Int} {i j x y p q W V : Nat} {w wb wr : World}
end

end Go.Proofs.Ytnfjdlocmdgefaa

/- Contracts (Part). -/
namespace Go.Proofs.Ytnfjdlocmdgefaa
open Go.RowKit
set_option linter.unusedVariables false

/-- of a row the first k values, then zeroes -/
def Zs.part (F : List Int) (k : Nat) : List Int := F.take k ++ List.replicate (F.length - k) 0
theorem Zs.part_length (F : List Int) (k : Nat) (h : k ≤ F.length) : (Zs.part F k).length = F.length := by simp [Zs.part]; omega
theorem Zs.part_zero (F : List Int) : Zs.part F 0 = List.replicate F.length 0 := by simp [Zs.part]
theorem Zs.part_all (F : List Int) : Zs.part F F.length = F := by simp [Zs.part]
theorem Zs.part_set (F : List Int) (k : Nat) (h : k < F.length) : (Zs.part F k).set k (Zs.at F k) = Zs.part F (k + 1) := by
  unfold Zs.part
  have hl : (F.take k).length = k := by simp; omega
  rw [List.set_append_right _ _ (by omega), hl, Nat.sub_self, show F.length - k = (F.length - (k + 1)) + 1 by omega, List.replicate_succ, List.set_cons_zero, List.take_succ_eq_append_getElem h, List.append_assoc]
  simp [Zs.at, List.getD_eq_getElem?_getD, h]
theorem made_zeros (z n : Nat) : (madeCells (Value.int .i64 0).cells (n * 1)).toList = ints (List.replicate n 0) := by
  unfold madeCells ints
  refine List.ext_getElem (by simp) fun k h1 h2 => ?_
  simp at h1 h2 ⊢
  show (#[Value.int .i64 0] : Array Value)[k % 1]! = _
  rw [Nat.mod_one]
  rfl
theorem info_intZ : (Try.prog.info? 3).map (fun i => (i.zero, i.size, i.bytes)) = some (some (.int .i64 0), 1, 8) := by kernel_rfl

end Go.Proofs.Ytnfjdlocmdgefaa

/- Contracts (L7In). -/
namespace Go.Proofs.Ytnfjdlocmdgefaa
open Go.RowKit
set_option linter.unusedVariables false

set_option maxHeartbeats 1600000 in
set_option maxRecDepth 100000 in
theorem l7In_any (A : Option Addr) (n c : Nat) (zs : List Int) (m : Nat) (w : World) (h : IntIn w w.heap.size A n zs) (hn : n ≤ 1048576) (hm : m ≤ 1000) :
    Calls Try.prog 35 #[.slice A n c, .int .i64 m] w fun e w' => e = .returned (.bool (Zs.fit zs m)) ∧ w = w' := by
  have H := Lib.hid h
  have HL := Lib.hid h.1
  clear h
  go_enter Try.func35, Try.ntmps35
  go_wp2
  go_loop [5] (fun iv => ∃ k : Nat, k ≤ n ∧ iv = .int .i64 k ∧ Zs.inTo zs k) (fun i => n - (intOf i).toNat)
  case atStart => exact ⟨0, Nat.zero_le _, rfl, fun j hj => absurd hj (Nat.not_lt_zero j)⟩
  case round =>
    obtain ⟨k, hk, rfl, hin⟩ := hrel
    have HI := Lib.hid hin
    clear hin
    by_cases hlt : k < n
    · obtain ⟨ad, rfl, _, c1⟩ := H.out.at_ hlt
      obtain ⟨z, hz⟩ : ∃ z, z = Zs.at zs k := ⟨_, rfl⟩
      rw [← hz] at c1
      have HZ := Lib.hid hz
      clear hz
      have k0 : (0 : Int) ≤ (k : Int) := by omega
      have k1 : (k : Int) < (n : Int) := by omega
      by_cases hq : 0 ≤ z ∧ z ≤ 1000
      · have q : decide (0 ≤ z ∧ z ≤ 1000) = true := by simpa using hq
        have Hq := Lib.hid hq
        clear hq
        go_wp2_with fail
        refine (l1In_any _ _ _ _).mono ?_
        rintro e w1 ⟨rfl, rfl⟩
        rw [q]
        go_wp2
        go_round
        case rel => exact ⟨k + 1, by omega, by go_num, fun j hj => by
          rcases Nat.lt_succ_iff_lt_or_eq.1 hj with h' | rfl
          · exact HI.out j h'
          · rw [← HZ.out]; exact Hq.out⟩
        case measure => simp [intOf]; omega
      · have q : decide (0 ≤ z ∧ z ≤ 1000) = false := by simpa using hq
        have Hf := Lib.hid (Zs.fit_not (zs := zs) (k := k) (n := m) (by rw [HL.out]; exact hlt) (by rw [← HZ.out]; exact hq))
        clear hq
        go_wp2_with fail
        refine (l1In_any _ _ _ _).mono ?_
        rintro e w1 ⟨rfl, rfl⟩
        rw [q]
        go_wp2
        go_ret
        exact ⟨Kit.ret_bool Hf.out.symm, rfl⟩
    · obtain rfl : k = n := by omega
      have Hf := Lib.hid (Zs.fit_all (zs := zs) (n := m) (by rw [HL.out]; exact HI.out))
      go_wp2
      go_ret
      exact ⟨Kit.ret_bool (by rw [Hf.out, HL.out, Bool.eq_iff_iff]; simp; omega), rfl⟩

end Go.Proofs.Ytnfjdlocmdgefaa

/- Contracts (CostOkS). -/
namespace Go.Proofs.Ytnfjdlocmdgefaa
open Go.RowKit
set_option linter.unusedVariables false

theorem Co.diag_not {k : Co} {a : Nat} (ha : a < 6) (h : Zs.at k.r (a * 6 + a) ≠ 0) : Co.diag k = false := by
  rw [Bool.eq_false_iff]
  intro e
  simp only [Co.diag, List.all_eq_true, List.mem_range, decide_eq_true_eq] at e
  exact h (e a ha)
def Co.diagTo (k : Co) (a : Nat) : Prop := ∀ b, b < a → Zs.at k.r (b * 6 + b) = 0
theorem Co.diag_all {k : Co} (h : Co.diagTo k 6) : Co.diag k = true := by
  simp only [Co.diag, List.all_eq_true, List.mem_range, decide_eq_true_eq]
  exact h
set_option maxHeartbeats 1600000 in
set_option maxRecDepth 100000 in
theorem specCostOk_any (A0 A1 A2 : Option Addr) (n0 n1 n2 c0 c1 c2 : Nat) (k : Co) (w : World) (h : CoIn w w.heap.size A0 A1 A2 n0 n1 n2 k) (h0 : n0 ≤ 1048576) (h1 : n1 ≤ 1048576) (h2 : n2 ≤ 1048576) :
    Calls Try.prog 11 #[.agg #[.slice A0 n0 c0, .slice A1 n1 c1, .slice A2 n2 c2]] w fun e w' => e = .returned (.bool (Co.ok k)) ∧ Below w.heap.size w w' := by
  have H := Lib.hid h
  have HL := Lib.hid h.len
  clear h
  have HB := Lib.hid ((Below.refl w.heap.size w).alloc (Nat.le_refl _) (.cells #[.slice A0 n0 c0, .slice A1 n1 c1, .slice A2 n2 c2] 27))
  have H1 := Lib.hid (H.out.to_below HB.out)
  cases e0 : Zs.fit k.d 6 with
  | false =>
    have Hf := Lib.hid (show Co.ok k = false by unfold Co.ok; rw [e0]; rfl)
    have E0 := Lib.hid e0
    clear e0
    go_enter Try.func11, Try.ntmps11
    go_wp2_with fail
    refine (l7In_any _ _ _ k.d 6 _ H1.out.1 h0 (by decide)).mono ?_
    rintro e w1 ⟨rfl, rfl⟩
    rw [E0.out]
    go_wp2
    go_ret
    exact ⟨Kit.ret_bool Hf.out.symm, HB.out⟩
  | true =>
    cases e1 : Zs.fit k.i 6 with
    | false =>
      have Hf := Lib.hid (show Co.ok k = false by unfold Co.ok; rw [e0, e1]; rfl)
      have E0 := Lib.hid e0
      have E1 := Lib.hid e1
      clear e0 e1
      go_enter Try.func11, Try.ntmps11
      go_wp2_with fail
      refine (l7In_any _ _ _ k.d 6 _ H1.out.1 h0 (by decide)).mono ?_
      rintro e w1 ⟨rfl, rfl⟩
      rw [E0.out]
      go_wp2_with fail
      refine (l7In_any _ _ _ k.i 6 _ H1.out.2.1 h1 (by decide)).mono ?_
      rintro e w1 ⟨rfl, rfl⟩
      rw [E1.out]
      go_wp2
      go_ret
      exact ⟨Kit.ret_bool Hf.out.symm, HB.out⟩
    | true =>
      cases e2 : Zs.fit k.r 36 with
      | false =>
        have Hf := Lib.hid (show Co.ok k = false by unfold Co.ok; rw [e0, e1, e2]; rfl)
        have E0 := Lib.hid e0
        have E1 := Lib.hid e1
        have E2 := Lib.hid e2
        clear e0 e1 e2
        go_enter Try.func11, Try.ntmps11
        go_wp2_with fail
        refine (l7In_any _ _ _ k.d 6 _ H1.out.1 h0 (by decide)).mono ?_
        rintro e w1 ⟨rfl, rfl⟩
        rw [E0.out]
        go_wp2_with fail
        refine (l7In_any _ _ _ k.i 6 _ H1.out.2.1 h1 (by decide)).mono ?_
        rintro e w1 ⟨rfl, rfl⟩
        rw [E1.out]
        go_wp2_with fail
        refine (l7In_any _ _ _ k.r 36 _ H1.out.2.2 h2 (by decide)).mono ?_
        rintro e w1 ⟨rfl, rfl⟩
        rw [E2.out]
        go_wp2
        go_ret
        exact ⟨Kit.ret_bool Hf.out.symm, HB.out⟩
      | true =>
        have Hf := Lib.hid (show Co.ok k = Co.diag k by unfold Co.ok; rw [e0, e1, e2]; rfl)
        have hr := (Zs.fit_iff.1 e2).1
        have hn2 : n2 = 36 := by rw [← hr]; exact HL.out.2.2.symm
        have E0 := Lib.hid e0
        have E1 := Lib.hid e1
        have E2 := Lib.hid e2
        clear e0 e1 e2 hr
        subst hn2
        obtain ⟨ad, rfl, _⟩ := H1.out.2.2.2.1 (by omega)
        go_enter Try.func11, Try.ntmps11
        go_wp2_with fail
        refine (l7In_any _ _ _ k.d 6 _ H1.out.1 h0 (by decide)).mono ?_
        rintro e w1 ⟨rfl, rfl⟩
        rw [E0.out]
        go_wp2_with fail
        refine (l7In_any _ _ _ k.i 6 _ H1.out.2.1 h1 (by decide)).mono ?_
        rintro e w1 ⟨rfl, rfl⟩
        rw [E1.out]
        go_wp2_with fail
        refine (l7In_any _ _ _ k.r 36 _ H1.out.2.2 h2 (by decide)).mono ?_
        rintro e w1 ⟨rfl, rfl⟩
        rw [E2.out]
        go_wp2
        go_loop [3] (fun iv => ∃ a : Nat, a ≤ 6 ∧ iv = .int .i64 a ∧ Co.diagTo k a) (fun i => 6 - (intOf i).toNat)
        case atStart => exact ⟨0, Nat.zero_le _, rfl, fun j hj => absurd hj (Nat.not_lt_zero j)⟩
        case round =>
          obtain ⟨a, ha, rfl, hin⟩ := hrel
          have HI := Lib.hid hin
          clear hin
          by_cases hlt : a < 6
          · have c1 := H1.out.2.2.here (k := a * 6 + a) (by omega)
            obtain ⟨z, hz⟩ : ∃ z, z = Zs.at k.r (a * 6 + a) := ⟨_, rfl⟩
            rw [← hz] at c1
            have HZ := Lib.hid hz
            clear hz
            obtain ⟨p, hp⟩ : ∃ p, p = a * 6 + a := ⟨_, rfl⟩
            rw [← hp] at c1
            have k0 : decide ((a : Int) < 6) = true := by simp; omega
            have a1 : IntKind.i64.wrap ((a : Int) * 6) = (a : Int) * 6 := Kit.w64 (by omega) (by omega)
            have a2 : IntKind.i64.wrap ((a : Int) * 6 + (a : Int)) = (p : Int) := by rw [Kit.w64 (by omega) (by omega)]; omega
            have a3 : (a : Int) * 6 + (a : Int) = (p : Int) := by omega
            have k1 : (0 : Int) ≤ (p : Int) := by omega
            have k2 : (p : Int) < 36 := by omega
            have HP := Lib.hid hp
            clear hp
            by_cases hq : z = 0
            · have q : (z != 0) = false := by simpa using hq
              have Hq := Lib.hid hq
              clear hq
              go_wp2
              refine ⟨⟨a + 1, by omega, by go_num, fun j hj => ?_⟩, by simp [intOf]; omega⟩
              rcases Nat.lt_succ_iff_lt_or_eq.1 hj with h' | rfl
              · exact HI.out j h'
              · rw [← HZ.out]; exact Hq.out
            · have q : (z != 0) = true := by simpa using hq
              have Hd := Lib.hid (Co.diag_not (k := k) hlt (by rw [← HZ.out]; exact hq))
              clear hq
              go_wp2
              go_ret
              exact ⟨Kit.ret_bool (by rw [Hf.out, Hd.out]), HB.out⟩
          · obtain rfl : a = 6 := by omega
            have Hd := Lib.hid (Co.diag_all HI.out)
            go_wp2
            go_ret
            exact ⟨Kit.ret_bool (by rw [Hf.out, Hd.out]), HB.out⟩

end Go.Proofs.Ytnfjdlocmdgefaa

/- Contracts (KeyI). -/
namespace Go.Proofs.Ytnfjdlocmdgefaa
open Go.RowKit
set_option linter.unusedVariables false

theorem IntIn.cut {w : World} {B n : Nat} {ad : Addr} {zs : List Int} (h : IntIn w B (some ad) n zs) {j m : Nat} (hjm : j + m = n) : IntIn w B (some (ad.add j)) m (zs.drop j) := by
  refine ⟨by have := h.1; simp; omega, fun hm => ⟨_, rfl, ?_⟩, fun ad' e k hk => ?_⟩
  · rw [block_of_add]
    obtain ⟨ad', e, hb⟩ := h.2.1 (by omega)
    obtain rfl : ad = ad' := by injection e
    exact hb
  · obtain rfl : ad.add j = ad' := by injection e
    have hc := h.2.2 ad rfl (j + k) (by omega)
    rw [add_of_add]
    simpa [Zs.at, List.getD_eq_getElem?_getD] using hc
theorem IntIn.none {w : World} {B : Nat} {A : Option Addr} : IntIn w B A 0 [] := ⟨rfl, fun h => absurd h (Nat.lt_irrefl 0), fun ad _ k hk => absurd hk (Nat.not_lt_zero k)⟩
end Go.Proofs.Ytnfjdlocmdgefaa

/- Contracts (Three). -/
namespace Go.Proofs.Ytnfjdlocmdgefaa
open Go.RowKit
set_option linter.unusedVariables false

theorem Apart.symm {a b : Value} (h : Apart a b) : Apart b a := by
  rcases hb : b.ownBlock with _ | g
  · exact .inl hb
  · refine .inr fun e => ?_
    rcases h with h | h
    · rw [hb, h] at e; cases e
    · exact h e.symm
/-- a struct of three rows of ints that a call builds: in block g; the rows behind it, apart from one another -/
def ThreeAt (w0 : World) (g n0 n1 n2 : Nat) (L0 L1 L2 : List Int) (v0 v1 v2 : Value) (w : World) : Prop :=
  Box3 w g v0 v1 v2 ∧ (∀ off, w.frozen? ⟨g, off, none⟩ = false) ∧ w.ownsRow (g + 1) 3 1 v0 n0 (ints L0) ∧ w.ownsRow (g + 1) 3 1 v1 n1 (ints L1) ∧ w.ownsRow (g + 1) 3 1 v2 n2 (ints L2) ∧
  Apart v0 v1 ∧ Apart v0 v2 ∧ Apart v1 v2 ∧ Below w0.heap.size w0 w ∧ g < w.heap.size
/-- the struct as it is made: three empty rows -/
theorem Three.new (w0 : World) (e : TypeId) : ThreeAt w0 w0.heap.size 0 0 0 [] [] [] (.slice none 0 0) (.slice none 0 0) (.slice none 0 0) (w0.alloc (.cells #[.slice none 0 0, .slice none 0 0, .slice none 0 0] e)) :=
  ⟨Box3.made _ _ _ _ _, Box3.free _ _ _ _ _, own_nil, own_nil, own_nil, .inl rfl, .inl rfl, .inl rfl, (Below.refl _ _).alloc (Nat.le_refl _) _, by simp⟩
/-- its three rows, as they lie behind a store of it into another struct -/
theorem Three.out {w0 w : World} {g n0 n1 n2 s : Nat} {L0 L1 L2 : List Int} {v0 v1 v2 u0 u1 u2 : Value} (h : ThreeAt w0 g n0 n1 n2 L0 L1 L2 v0 v1 v2 w) (hs : s ≤ g) {base : Nat} (hb : base ≤ g) :
    let W := ((w.setCell ⟨s, 0, none⟩ u0).setCell ⟨s, 1, none⟩ u1).setCell ⟨s, 2, none⟩ u2
    W.ownsRow base 3 1 v0 n0 (ints L0) ∧ W.ownsRow base 3 1 v1 n1 (ints L1) ∧ W.ownsRow base 3 1 v2 n2 (ints L2) ∧ Apart v0 v1 ∧ Apart v0 v2 ∧ Apart v1 v2 := by
  obtain ⟨hx, hf, o0, o1, o2, a01, a02, a12, hB, hgl⟩ := h
  have keep : ∀ (v : Value) (n : Nat) (ys : List Value), w.ownsRow (g + 1) 3 1 v n ys → (((w.setCell ⟨s, 0, none⟩ u0).setCell ⟨s, 1, none⟩ u1).setCell ⟨s, 2, none⟩ u2).ownsRow base 3 1 v n ys := fun _ _ _ k =>
    own_base (own_grown (own_grown (own_grown k (Kit.grown_set _ _ _ _) (fun b hb => by injection hb with hb; omega)) (Kit.grown_set _ _ _ _) (fun b hb => by injection hb with hb; omega)) (Kit.grown_set _ _ _ _) (fun b hb => by injection hb with hb; omega)) (by omega)
  exact ⟨keep _ _ _ o0, keep _ _ _ o1, keep _ _ _ o2, a01, a02, a12⟩

end Go.Proofs.Ytnfjdlocmdgefaa

/- Contracts (UnitS). -/
namespace Go.Proofs.Ytnfjdlocmdgefaa
open Go.RowKit
set_option linter.unusedVariables false

/-- the answer is a cost of the call's own: three rows apart -/
def OwnCo (k : Co) (w : World) (e : Ending) (w' : World) : Prop :=
  ∃ A0 A1 A2 c0 c1 c2, e = .returned (.agg #[.slice A0 k.d.length c0, .slice A1 k.i.length c1, .slice A2 k.r.length c2]) ∧
    w'.ownsRow w.heap.size 3 1 (.slice A0 k.d.length c0) k.d.length (ints k.d) ∧ w'.ownsRow w.heap.size 3 1 (.slice A1 k.i.length c1) k.i.length (ints k.i) ∧ w'.ownsRow w.heap.size 3 1 (.slice A2 k.r.length c2) k.r.length (ints k.r) ∧
    Apart (.slice A0 k.d.length c0) (.slice A1 k.i.length c1) ∧ Apart (.slice A0 k.d.length c0) (.slice A2 k.r.length c2) ∧ Apart (.slice A1 k.i.length c1) (.slice A2 k.r.length c2) ∧ Below w.heap.size w w'
theorem results_cell1 {fn : Func} {p : Tmp} {ty : TypeId} (h : fn.results = #[.cell p ty]) (tmps : Array Value) (P : Program) (w : World) :
    (results fn tmps).run P w = ((asAddr (tmps.getD p undef)).run P w).andThen fun a w₁ => (loadVar ty a).run P w₁ := by
  simp only [results, h]
  simp [Sem.run_bind]
end Go.Proofs.Ytnfjdlocmdgefaa

/- Contracts (SideI). -/
namespace Go.Proofs.Ytnfjdlocmdgefaa
open Go.RowKit
set_option linter.unusedVariables false

/-- a struct of three rows in block g, the first of which grows in blocks from b0 on -/
structure SdA (g b0 : Nat) (v1 v2 : Value) (L : List Int) (v0 : Value) (w2 w3 wr : World) : Prop where
  c0 : wr.cell? ⟨g, 0, none⟩ = some v0
  c1 : wr.cell? ⟨g, 1, none⟩ = some v1
  c2 : wr.cell? ⟨g, 2, none⟩ = some v2
  fz : ∀ off, wr.frozen? ⟨g, off, none⟩ = false
  row : wr.ownsRow b0 3 1 v0 L.length (ints L)
  kb : ∀ p : Addr, p.block < b0 → p.block ≠ g → wr.cell? p = w3.cell? p
  bl : Below g w2 wr
  sz : b0 ≤ wr.heap.size
theorem SdA.drew {g b0 : Nat} {v1 v2 v0 : Value} {L : List Int} {w2 w3 wr : World} (h : SdA g b0 v1 v2 L v0 w2 w3 wr) : SdA g b0 v1 v2 L v0 w2 w3 wr.drew :=
  ⟨h.c0, h.c1, h.c2, h.fz, own_drawn h.row (Drawn.refl _).drew, h.kb, Drawn.below h.bl (Drawn.refl _).drew, h.sz⟩
end Go.Proofs.Ytnfjdlocmdgefaa

/- Contracts (FullM). -/
namespace Go.Proofs.Ytnfjdlocmdgefaa
open Go.RowKit
set_option linter.unusedVariables false

/-! How the table is made. -/
/-- the cells of a new table -/
def dtCells (z : Array Value) (a0 a1 a2 b0 b1 b2 k0 k1 k2 t : Value) : Array Value := (((((((((z.setIfInBounds 0 a0).setIfInBounds 1 a1).setIfInBounds 2 a2).setIfInBounds 3 b0).setIfInBounds 4 b1).setIfInBounds 5 b2).setIfInBounds 6 k0).setIfInBounds 7 k1).setIfInBounds 8 k2).setIfInBounds 9 t
theorem dt_cells (a0 a1 a2 b0 b1 b2 k0 k1 k2 t : Value) : dtCells Try.zeroCells73 a0 a1 a2 b0 b1 b2 k0 k1 k2 t = ⟨[a0, a1, a2, b0, b1, b2, k0, k1, k2, t] ++ List.replicate 625 (.int .i64 0)⟩ := by kernel_rfl
theorem dtCells_zero (a0 a1 a2 b0 b1 b2 k0 k1 k2 t : Value) (x y : Nat) (hx : x < 25) (hy : y < 25) : (dtCells Try.zeroCells73 a0 a1 a2 b0 b1 b2 k0 k1 k2 t)[10 + x * 25 + y]? = some (.int .i64 0) := by
  rw [dt_cells, List.getElem?_toArray, List.getElem?_append_right (by simp; omega), List.getElem?_replicate, if_pos (by simp; omega)]
/-- a row of the call's own, seen from a block that is made behind it -/
theorem RowOff.of_own {w : World} {base ga gt n c : Nat} {zs : List Int} {o : Obj} (h : w.ownsRow base 3 1 (.slice (some ⟨ga, 0, none⟩) n c) n (ints zs)) (hg : ga < w.heap.size) (hne : ga ≠ gt) : RowOff (w.alloc o) w.heap.size gt ⟨ga, 0, none⟩ n zs := by
  have hlen : zs.length = n := by have := h.1; rw [ints_length] at this; omega
  refine ⟨hlen, by simp; omega, by show ga ≠ w.heap.size; omega, hne, fun k hk => ?_⟩
  have := (h.alloc o).cells rfl k _ (ints_at zs k (by omega))
  exact this
theorem RowOff.of_in {w : World} {B gt n : Nat} {ad : Addr} {zs : List Int} {o : Obj} (h : IntIn w B (some ad) n zs) (hb : ad.block < B) (hB : B ≤ gt) (hg : gt < w.heap.size) : RowOff (w.alloc o) w.heap.size gt ad n zs := by
  refine ⟨h.1, by simp; omega, by omega, by omega, fun k hk => ?_⟩
  rw [World.cell?_alloc_lt w o _ (by rw [block_of_add]; omega)]
  exact h.here hk
theorem cell_made (w : World) (cs : Array Value) (e : TypeId) (off : Nat) (u : Value) (hu : cs[off]? = some u) : (w.alloc (.cells cs e)).cell? ⟨w.heap.size, off, none⟩ = some u := by simp [hu]
theorem free_made (w : World) (cs : Array Value) (e : TypeId) (off : Nat) : (w.alloc (.cells cs e)).frozen? ⟨w.heap.size, off, none⟩ = false := by simp
theorem size_made (w : World) (cs : Array Value) (e : TypeId) : (w.alloc (.cells cs e)).heap.size = w.heap.size + 1 := by simp
set_option maxRecDepth 100000 in
/-- the table, new -/
theorem DT.made {B nm : Nat} {xs ys : Tr} {k : Co} {w : World} {ga0 ga1 ga2 gb0 gb1 gb2 gt ca0 ca1 ca2 cb0 cb1 cb2 ck0 ck1 ck2 : Nat} {k0 k1 k2 : Addr}
    (a0 : w.ownsRow B 3 1 (.slice (some ⟨ga0, 0, none⟩) xs.length ca0) xs.length (ints (Tr.lab xs))) (a1 : w.ownsRow B 3 1 (.slice (some ⟨ga1, 0, none⟩) xs.length ca1) xs.length (ints (Zs.up (Tr.lfs xs)))) (a2 : w.ownsRow B 3 1 (.slice (some ⟨ga2, 0, none⟩) (Tr.krs xs).length ca2) (Tr.krs xs).length (ints (Zs.up (Tr.krs xs))))
    (b0 : w.ownsRow B 3 1 (.slice (some ⟨gb0, 0, none⟩) ys.length cb0) ys.length (ints (Tr.lab ys))) (b1 : w.ownsRow B 3 1 (.slice (some ⟨gb1, 0, none⟩) ys.length cb1) ys.length (ints (Zs.up (Tr.lfs ys)))) (b2 : w.ownsRow B 3 1 (.slice (some ⟨gb2, 0, none⟩) (Tr.krs ys).length cb2) (Tr.krs ys).length (ints (Zs.up (Tr.krs ys))))
    (hnm : nm = xs.length * ys.length) (t : w.ownsRow B 3 1 (.slice (some ⟨gt, 0, none⟩) nm nm) nm (ints (List.replicate nm 0)))
    (hk : CoIn w B (some k0) (some k1) (some k2) 6 6 36 k)
    (na : ga0 ≠ gt ∧ ga1 ≠ gt ∧ ga2 ≠ gt ∧ gb0 ≠ gt ∧ gb1 ≠ gt ∧ gb2 ≠ gt) (nl : ga0 < w.heap.size ∧ ga1 < w.heap.size ∧ ga2 < w.heap.size ∧ gb0 < w.heap.size ∧ gb1 < w.heap.size ∧ gb2 < w.heap.size) (ht : B ≤ gt ∧ gt < w.heap.size) :
    DT B ⟨w.heap.size, gt, ⟨ga0, 0, none⟩, ⟨ga1, 0, none⟩, ⟨ga2, 0, none⟩, ⟨gb0, 0, none⟩, ⟨gb1, 0, none⟩, ⟨gb2, 0, none⟩, k0, k1, k2, ca0, ca1, ca2, cb0, cb1, cb2, ck0, ck1, ck2⟩ xs ys k (fun _ _ => 0) (List.replicate nm 0)
      (w.alloc (.cells (dtCells Try.zeroCells73 (.slice (some ⟨ga0, 0, none⟩) xs.length ca0) (.slice (some ⟨ga1, 0, none⟩) xs.length ca1) (.slice (some ⟨ga2, 0, none⟩) (Tr.krs xs).length ca2) (.slice (some ⟨gb0, 0, none⟩) ys.length cb0) (.slice (some ⟨gb1, 0, none⟩) ys.length cb1) (.slice (some ⟨gb2, 0, none⟩) (Tr.krs ys).length cb2)
        (.slice (some k0) 6 ck0) (.slice (some k1) 6 ck1) (.slice (some k2) 36 ck2) (.slice (some ⟨gt, 0, none⟩) nm nm)) 73)) := by
  subst hnm
  obtain ⟨_, e0, q0⟩ := hk.1.2.1 (by omega)
  injection e0 with e0; subst e0
  obtain ⟨_, e1, q1⟩ := hk.2.1.2.1 (by omega)
  injection e1 with e1; subst e1
  obtain ⟨_, e2, q2⟩ := hk.2.2.2.1 (by omega)
  injection e2 with e2; subst e2
  exact {
    gB := by show B ≤ w.heap.size; omega
    gl := by show w.heap.size < _; rw [size_made]; omega
    gg := by show gt ≠ w.heap.size; omega
    fz := free_made _ _ _
    h0 := cell_made _ _ _ 0 _ (by rw [dt_cells]; rfl), h1 := cell_made _ _ _ 1 _ (by rw [dt_cells]; rfl), h2 := cell_made _ _ _ 2 _ (by rw [dt_cells]; rfl), h3 := cell_made _ _ _ 3 _ (by rw [dt_cells]; rfl), h4 := cell_made _ _ _ 4 _ (by rw [dt_cells]; rfl), h5 := cell_made _ _ _ 5 _ (by rw [dt_cells]; rfl), h6 := cell_made _ _ _ 6 _ (by rw [dt_cells]; rfl), h7 := cell_made _ _ _ 7 _ (by rw [dt_cells]; rfl), h8 := cell_made _ _ _ 8 _ (by rw [dt_cells]; rfl), h9 := cell_made _ _ _ 9 _ (by rw [dt_cells]; rfl)
    fr := fun x y hx hy => cell_made _ _ _ _ _ (dtCells_zero _ _ _ _ _ _ _ _ _ _ x y hx hy)
    row := t.alloc _
    ra0 := RowOff.of_own a0 nl.1 na.1, ra1 := RowOff.of_own a1 nl.2.1 na.2.1, ra2 := RowOff.of_own a2 nl.2.2.1 na.2.2.1
    rb0 := RowOff.of_own b0 nl.2.2.2.1 na.2.2.2.1, rb1 := RowOff.of_own b1 nl.2.2.2.2.1 na.2.2.2.2.1, rb2 := RowOff.of_own b2 nl.2.2.2.2.2 na.2.2.2.2.2
    rk0 := RowOff.of_in hk.1 q0 ht.1 ht.2, rk1 := RowOff.of_in hk.2.1 q1 ht.1 ht.2, rk2 := RowOff.of_in hk.2.2 q2 ht.1 ht.2 }

end Go.Proofs.Ytnfjdlocmdgefaa
