/- Texts of one claim laid into one file, in build order: TreeOkS, AtS, EndOfS, Mem, Res. -/
import Derived.Test.YtofpcedpmbecgaaHa1
import Derived.BigQuiet
import Derived.Deep.RegionLaw
import Derived.Laws.AppendOwn
import Derived.Laws.OwnMore
import Derived.Outline
import Derived.OwnWalk
/- Contracts (TreeOkS). -/
namespace Go.Proofs.Ytofpcedpmbecgaa
open Go.RowKit
set_option linter.unusedVariables false

set_option maxHeartbeats 800000 in
set_option maxRecDepth 100000 in
theorem specTreeOk_any (A : Option Addr) (n c : Nat) (xs : Tr) (w : World) (h : NdIn w w.heap.size A n xs) (hn : n ≤ 1048576) :
    Calls Try.prog 15 #[.slice A n c] w fun e w' => e = .returned (.bool (Tr.ok xs)) ∧ Drawn w w' := by
  have H := Lib.hid h
  clear h
  go_enter Try.func15, Try.ntmps15
  go_wp2
  go_loopw [3] (fun iv wr => ∃ k : Nat, k ≤ n ∧ iv = .int .i64 k ∧ Tr.okTo xs k ∧ Drawn w wr) (fun i _ => n - (intOf i).toNat)
  case atStart => exact ⟨0, Nat.zero_le _, rfl, fun j hj => absurd hj (by omega), Drawn.refl _⟩
  case round =>
    obtain ⟨k, hk, rfl, hok, hD⟩ := hrel
    have Hok := Lib.hid hok
    clear hok
    have HL := Lib.hid H.out.1
    by_cases hlt : k < n
    · obtain ⟨ad, rfl, hb, hl, hd⟩ := (H.out.drawn hD).at_ hlt
      by_cases h1 : 0 ≤ Tr.l xs k ∧ Tr.l xs k ≤ 5
      · have h1' : Lab.ok (Tr.l xs k) = true := by simp [Lab.ok, h1]
        by_cases h2 : 0 ≤ Tr.d xs k ∧ Tr.d xs k ≤ 12
        · have h2' : decide (0 ≤ Tr.d xs k ∧ Tr.d xs k ≤ 12) = true := by simpa using h2
          by_cases hk0 : k = 0
          · have e1 : ((k : Int) == 0) = true := by simp [hk0]
            have e2 : decide (0 < k) = false := by simp; omega
            by_cases h3 : Tr.d xs k = 0
            · have e3 : (Tr.d xs k == 0) = true := by simpa using h3
              have Hk := Lib.hid (show Tr.okAt xs k = true by simp [Tr.okAt]; omega)
              clear h1 h2 h3 hk0
              go_wp2
              go_quiet (first
                | (go_at_call 56; exact quiet_same (specLabelOk_any _ _))
                | (go_at_call 57; exact quiet_same (l1In_any _ _ _ _)))
              go_wp2
              go_roundw
              case rel => exact ⟨k + 1, by omega, by go_num, Tr.okTo_succ Hok.out Hk.out, hD.drewN _⟩
              case measure => simp [intOf]; omega
            · have e3 : (Tr.d xs k == 0) = false := by simpa using h3
              have Hf := Lib.hid (Tr.not_ok (xs := xs) (k := k) (by rw [HL.out]; exact hlt) (by simp [Tr.okAt]; omega))
              clear h1 h2 h3 hk0
              go_wp2
              go_quiet (first
                | (go_at_call 56; exact quiet_same (specLabelOk_any _ _))
                | (go_at_call 57; exact quiet_same (l1In_any _ _ _ _)))
              go_wp2
              go_ret
              exact ⟨Kit.ret_bool Hf.out.symm, hD.drewN _⟩
          · have e1 : ((k : Int) == 0) = false := by simp [hk0]
            have e2 : decide (0 < k) = true := by simp; omega
            obtain ⟨hl', hd'⟩ := (H.out.drawn hD).here (show k - 1 < n by omega)
            by_cases h3 : Tr.d xs k = 0
            · have e3 : (Tr.d xs k == 0) = true := by simpa using h3
              have Hf := Lib.hid (Tr.not_ok (xs := xs) (k := k) (by rw [HL.out]; exact hlt) (by simp [Tr.okAt]; omega))
              clear h1 h2 h3 hk0
              go_wp2
              go_quiet (first
                | (go_at_call 56; exact quiet_same (specLabelOk_any _ _))
                | (go_at_call 57; exact quiet_same (l1In_any _ _ _ _)))
              go_wp2
              go_ret
              exact ⟨Kit.ret_bool Hf.out.symm, hD.drewN _⟩
            · have e3 : (Tr.d xs k == 0) = false := by simpa using h3
              have a1 : IntKind.i64.wrap ((k : Int) - 1) = (k : Int) - 1 := Kit.w64 (by omega) (by omega)
              have a2 : ((k : Int) - 1).toNat = k - 1 := by omega
              have a3 : (1 : Int) ≤ (k : Int) := by omega
              have a4 : (k : Int) - 1 < (n : Int) := by omega
              have a5 : IntKind.i64.wrap (Tr.d xs (k - 1) + 1) = Tr.d xs (k - 1) + 1 := by
                have := Tr.okTo_at (Hok.out) (show k - 1 < k by omega)
                exact Kit.w64 (by omega) (by omega)
              by_cases h4 : Tr.d xs k ≤ Tr.d xs (k - 1) + 1
              · have e4 : decide (Tr.d xs (k - 1) + 1 < Tr.d xs k) = false := by simpa using h4
                have Hk := Lib.hid (show Tr.okAt xs k = true by simp [Tr.okAt]; omega)
                clear h1 h2 h3 h4 hk0
                go_wp2
                go_quiet (first
                  | (go_at_call 56; exact quiet_same (specLabelOk_any _ _))
                  | (go_at_call 57; exact quiet_same (l1In_any _ _ _ _)))
                clear a1 a2 a3 a4 a5
                go_wp2
                go_roundw
                case rel => exact ⟨k + 1, by omega, by go_num, Tr.okTo_succ Hok.out Hk.out, hD.drewN _⟩
                case measure => simp [intOf]; omega
              · have e4 : decide (Tr.d xs (k - 1) + 1 < Tr.d xs k) = true := by simpa using h4
                have Hf := Lib.hid (Tr.not_ok (xs := xs) (k := k) (by rw [HL.out]; exact hlt) (by simp [Tr.okAt]; omega))
                clear h1 h2 h3 h4 hk0
                go_wp2
                go_quiet (first
                  | (go_at_call 56; exact quiet_same (specLabelOk_any _ _))
                  | (go_at_call 57; exact quiet_same (l1In_any _ _ _ _)))
                clear a1 a2 a3 a4 a5
                go_wp2
                go_ret
                exact ⟨Kit.ret_bool Hf.out.symm, hD.drewN _⟩
        · have h2' : decide (0 ≤ Tr.d xs k ∧ Tr.d xs k ≤ 12) = false := by simpa using h2
          have Hf := Lib.hid (Tr.not_ok (xs := xs) (k := k) (by rw [HL.out]; exact hlt) (by simp [Tr.okAt]; omega))
          clear h1 h2
          go_wp2
          go_quiet (first
            | (go_at_call 56; exact quiet_same (specLabelOk_any _ _))
            | (go_at_call 57; exact quiet_same (l1In_any _ _ _ _)))
          go_wp2
          go_ret
          exact ⟨Kit.ret_bool Hf.out.symm, hD.drewN _⟩
      · have h1' : Lab.ok (Tr.l xs k) = false := by simpa [Lab.ok] using h1
        have Hf := Lib.hid (Tr.not_ok (xs := xs) (k := k) (by rw [HL.out]; exact hlt) (by simp [Tr.okAt]; omega))
        clear h1
        go_wp2
        go_quiet (first
          | (go_at_call 56; exact quiet_same (specLabelOk_any _ _))
          | (go_at_call 57; exact quiet_same (l1In_any _ _ _ _)))
        go_wp2
        go_ret
        exact ⟨Kit.ret_bool Hf.out.symm, hD.drewN _⟩
    · obtain rfl : k = n := by omega
      have Hs := Lib.hid (Tr.ok_size (xs := xs) (by rw [HL.out]; exact Hok.out))
      go_wp2_with (go_at_call 57; refine (l1In_any _ _ _ _).mono ?_; rintro e w' ⟨rfl, rfl⟩)
      go_ret
      exact ⟨Kit.ret_bool (by rw [Hs.out, HL.out, ← Bool.decide_and, decide_eq_decide]; omega), hD⟩

end Go.Proofs.Ytofpcedpmbecgaa

/- Contracts (AtS). -/
namespace Go.Proofs.Ytofpcedpmbecgaa
open Go.RowKit
set_option linter.unusedVariables false

set_option maxHeartbeats 800000 in
set_option maxRecDepth 100000 in
theorem l3At_any (A : Option Addr) (n c : Nat) (xs : Tr) (i : Int) (w : World) (h : NdIn w w.heap.size A n xs) (hn : n ≤ 1048576) :
    Calls Try.prog 72 #[.slice A n c, .int .i64 i] w fun e w' => e = .returned (.bool (Tr.has xs i)) ∧ Drawn w w' := by
  have H := Lib.hid h
  clear h
  have HL := Lib.hid H.out.1
  rcases hok : Tr.ok xs with _ | _
  · have Hf := Lib.hid (show Tr.has xs i = false by simp [Tr.has, hok])
    have Hok := Lib.hid hok
    clear hok
    go_enter Try.func72, Try.ntmps72
    go_wp2_with fail
    refine (specTreeOk_any _ _ _ xs _ H.out hn).mono ?_
    rintro e w1 ⟨rfl, hd⟩
    rw [Hok.out]
    go_wp2
    go_ret
    exact ⟨Kit.ret_bool Hf.out.symm, hd⟩
  · have h1 := (Tr.ok_iff.1 hok).2
    have hn1 : 1 ≤ n := by rw [← HL.out]; omega
    have Hok := Lib.hid hok
    clear h1 hok
    go_enter Try.func72, Try.ntmps72
    go_wp2_with fail
    refine (specTreeOk_any _ _ _ xs _ H.out hn).mono ?_
    rintro e w1 ⟨rfl, hd⟩
    rw [Hok.out]
    go_wp2_with (go_at_call 57; refine (l1In_any _ _ _ _).mono ?_; rintro e w' ⟨rfl, rfl⟩)
    go_ret
    refine ⟨Kit.ret_bool ?_, hd⟩
    simp [Tr.has, Hok.out, HL.out]
    rw [← Bool.decide_and, ← Bool.decide_and, decide_eq_decide]
    omega

end Go.Proofs.Ytofpcedpmbecgaa

/- Contracts (EndOfS). -/
namespace Go.Proofs.Ytofpcedpmbecgaa
open Go.RowKit
set_option linter.unusedVariables false

set_option maxHeartbeats 800000 in
set_option maxRecDepth 100000 in
theorem specEndOf_any (A : Option Addr) (n c : Nat) (xs : Tr) (i : Int) (w : World) (h : NdIn w w.heap.size A n xs) (hn : n ≤ 1048576) :
    Calls Try.prog 70 #[.slice A n c, .int .i64 i] w fun e w' => e = .returned (.int .i64 (Tr.endOf xs i)) ∧ Drawn w w' := by
  have H := Lib.hid h
  clear h
  have HL := Lib.hid H.out.1
  rcases hok : Tr.has xs i with _ | _
  · have Hf := Lib.hid (show Tr.endOf xs i = -1 by simp [Tr.endOf, hok])
    have Hok := Lib.hid hok
    clear hok
    go_enter Try.func70, Try.ntmps70
    go_wp2_with fail
    refine (l3At_any _ _ _ xs _ _ H.out hn).mono ?_
    rintro e w1 ⟨rfl, hd⟩
    rw [Hok.out]
    go_wp2
    go_ret
    exact ⟨Kit.ret_int Hf.out.symm, hd⟩
  · have h1 := (Tr.has_iff.1 hok).2
    rw [HL.out] at h1
    have Hf := Lib.hid (show Tr.endOf xs i = Tr.endN xs i.toNat by simp [Tr.endOf, hok])
    have Hok := Lib.hid hok
    clear hok
    obtain ⟨j, rfl⟩ := Int.eq_ofNat_of_zero_le h1.1
    have hj : j < n := by omega
    clear h1
    go_enter Try.func70, Try.ntmps70
    go_wp2_with fail
    refine (l3At_any _ _ _ xs _ _ H.out hn).mono ?_
    rintro e w1 ⟨rfl, hd1⟩
    have Hd1 := Lib.hid hd1
    have H1 := Lib.hid (H.out.drawn Hd1.out)
    clear hd1
    rw [Hok.out]
    go_wp2
    go_loopw [5] (fun kv wr => ∃ k : Nat, j < k ∧ k ≤ n ∧ kv = .int .i64 k ∧ (∀ m, j < m → m < k → Tr.d xs j < Tr.d xs m) ∧ Drawn w1 wr) (fun k _ => n - (intOf k).toNat)
    case atStart => exact ⟨j + 1, by omega, by omega, by go_num, fun m h1 h2 => absurd h1 (by omega), Drawn.refl _⟩
    case round =>
      obtain ⟨k, hjk, hk, rfl, hall, hD⟩ := hrel
      have Hall := Lib.hid hall
      clear hall
      have hk0 : (0 : Int) ≤ (k : Int) := by omega
      have hj0 : (0 : Int) ≤ (j : Int) := by omega
      by_cases hlt : k < n
      · have hltd : decide (k < n) = true := by simpa using hlt
        obtain ⟨ad, rfl, hb, hl, hd⟩ := (H1.out.drawn hD).at_ hlt
        obtain ⟨hl', hd'⟩ := (H1.out.drawn hD).here hj
        clear hl hl'
        by_cases hgt : Tr.d xs j < Tr.d xs k
        · have hg : decide (Tr.d xs j < Tr.d xs k) = true := by simpa using hgt
          have Hg := Lib.hid hgt
          clear hgt
          go_wp2
          go_quiet (fail)
          go_wp2
          go_roundw
          case rel => exact ⟨k + 1, by omega, by omega, by go_num, fun m h1 h2 => by
            rcases Nat.lt_succ_iff_lt_or_eq.1 h2 with h' | rfl
            · exact Hall.out m h1 h'
            · exact Hg.out, hD.drewN _⟩
          case measure => simp [intOf]; omega
        · have hg : decide (Tr.d xs j < Tr.d xs k) = false := by simpa using hgt
          have He := Lib.hid (Tr.endN_is (xs := xs) hjk (by rw [HL.out]; exact hk) Hall.out (.inr (by omega)))
          clear hgt
          go_wp2
          go_quiet (fail)
          go_wp2
          go_ret
          exact ⟨Kit.ret_int (by rw [Hf.out, Int.toNat_natCast, He.out]), Hd1.out.trans (hD.drewN _)⟩
      · have hltd : decide (k < n) = false := by simpa using hlt
        obtain rfl : k = n := by omega
        have He := Lib.hid (Tr.endN_is (xs := xs) hjk (by rw [HL.out]; exact hk) Hall.out (.inl HL.out.symm))
        go_wp2
        go_quiet (fail)
        go_wp2
        go_ret
        exact ⟨Kit.ret_int (by rw [Hf.out, Int.toNat_natCast, He.out]), Hd1.out.trans (hD.drewN _)⟩

end Go.Proofs.Ytofpcedpmbecgaa

/- Contracts (Mem). -/
namespace Go.Proofs.Ytofpcedpmbecgaa
open Go.RowKit
set_option linter.unusedVariables false


/-! rows of ints -/
def ints (zs : List Int) : List Value := zs.map (Value.int .i64)
def Zs.at (zs : List Int) (k : Nat) : Int := zs.getD k 0
theorem ints_length (zs : List Int) : (ints zs).length = zs.length := by simp [ints]
theorem ints_at (zs : List Int) (k : Nat) (h : k < zs.length) : (ints zs)[k]? = some (.int .i64 (Zs.at zs k)) := by
  simp [ints, Zs.at, List.getD_eq_getElem?_getD, h]
theorem Tr.cells_cell (xs : Tr) : ∀ u ∈ Tr.cells xs, u.oneCell' = true := by
  intro u hu
  simp only [Tr.cells, List.mem_flatMap] at hu
  obtain ⟨a, _, hu⟩ := hu
  simp at hu
  rcases hu with rfl | rfl <;> rfl
theorem Zs.ext {a b : List Int} (hl : a.length = b.length) (h : ∀ k, k < a.length → Zs.at a k = Zs.at b k) : a = b := by
  refine List.ext_getElem hl fun k h1 h2 => ?_
  have := h k h1
  simpa [Zs.at, List.getD_eq_getElem?_getD, h1, h2] using this

/-- the slice (A, n) reads as the ints zs, in blocks below B -/
def IntIn (w : World) (B : Nat) (A : Option Addr) (n : Nat) (zs : List Int) : Prop :=
  zs.length = n ∧ (0 < n → ∃ ad, A = some ad ∧ ad.block < B) ∧ ∀ ad, A = some ad → ∀ k, k < n → w.cell? (ad.add k) = some (.int .i64 (Zs.at zs k))

section
variable {w w' : World} {B B' n : Nat} {A : Option Addr} {zs : List Int}
theorem IntIn.keep (h : IntIn w B A n zs) (hk : ∀ p : Addr, p.block < B → w'.cell? p = w.cell? p) : IntIn w' B A n zs := by
  refine ⟨h.1, h.2.1, fun ad e k hkn => ?_⟩
  obtain ⟨ad', e', hb⟩ := h.2.1 (by omega)
  obtain rfl : ad' = ad := by rw [e'] at e; injection e
  rw [hk _ (by rw [block_of_add]; exact hb)]
  exact h.2.2 _ e k hkn
theorem IntIn.more (h : IntIn w B A n zs) (hB : B ≤ B') : IntIn w B' A n zs :=
  ⟨h.1, fun hn => by obtain ⟨ad, e, hb⟩ := h.2.1 hn; exact ⟨ad, e, by omega⟩, h.2.2⟩
theorem IntIn.below (h : IntIn w B A n zs) (hb : Below B w w') : IntIn w' B A n zs := h.keep fun _ hp => hb.cell hp
theorem IntIn.drawn (h : IntIn w B A n zs) (k : Drawn w w') : IntIn w' B A n zs := by obtain ⟨m, rfl⟩ := k; exact h
theorem IntIn.to_below (h : IntIn w w.heap.size A n zs) (hb : Below w.heap.size w w') : IntIn w' w'.heap.size A n zs := (h.below hb).more hb.size
theorem IntIn.to_drawn (h : IntIn w w.heap.size A n zs) (hb : Drawn w w') : IntIn w' w'.heap.size A n zs := h.to_below hb.toBelow
theorem IntIn.here {ad : Addr} (h : IntIn w B (some ad) n zs) {k : Nat} (hk : k < n) : w.cell? (ad.add k) = some (.int .i64 (Zs.at zs k)) := h.2.2 ad rfl k hk
theorem IntIn.at_ (h : IntIn w B A n zs) {k : Nat} (hk : k < n) : ∃ ad, A = some ad ∧ ad.block < B ∧ w.cell? (ad.add k) = some (.int .i64 (Zs.at zs k)) := by
  obtain ⟨ad, rfl, hb⟩ := h.2.1 (by omega)
  exact ⟨ad, rfl, hb, h.here hk⟩
theorem IntIn.of_own {base : Nat} {e : TypeId} {c : Nat} (h : w.ownsRow base e 1 (.slice A n c) n (ints zs)) : IntIn w w.heap.size A n zs := by
  have hlen : zs.length = n := by have := h.1; rw [ints_length] at this; omega
  have hb : 0 < n → ∃ g cap, Value.slice A n c = .slice (some ⟨g, 0, none⟩) n cap ∧ g < w.heap.size := by
    intro hn
    rcases h.2 with ⟨_, h0⟩ | ⟨g, cap, cur, hv, hg, hh, _⟩
    · omega
    · refine ⟨g, cap, hv, ?_⟩
      rcases Nat.lt_or_ge g w.heap.size with hlt | hge
      · exact hlt
      · rw [Array.getElem?_eq_none hge] at hh; cases hh
  refine ⟨hlen, fun hn => ?_, fun ad e k hk => ?_⟩
  · obtain ⟨g, cap, hv, hlt⟩ := hb hn
    obtain rfl : A = some ⟨g, 0, none⟩ := by injection hv
    exact ⟨_, rfl, hlt⟩
  · obtain ⟨g, cap, hv, hlt⟩ := hb (by omega)
    obtain rfl : A = some ⟨g, 0, none⟩ := by injection hv
    obtain rfl : (⟨g, 0, none⟩ : Addr) = ad := by injection e
    exact h.cells rfl _ _ (ints_at zs k (by omega))
theorem IntIn.cells_at {ad : Addr} (h : IntIn w B (some ad) n zs) : ∀ j u, (ints zs)[j]? = some u → w.cell? (ad.add j) = some u := by
  intro j u hj
  have hlt := (List.getElem?_eq_some_iff.1 hj).1
  rw [ints_length] at hlt
  rw [ints_at _ _ hlt] at hj
  rw [h.here (k := j) (by rw [← h.1]; exact hlt)]
  exact hj
end

theorem NdIn.cells_at {w : World} {B n : Nat} {xs : Tr} {ad : Addr} (h : NdIn w B (some ad) n xs) : ∀ j u, (Tr.cells xs)[j]? = some u → w.cell? (ad.add j) = some u := by
  intro j u hj
  have hlt := (List.getElem?_eq_some_iff.1 hj).1
  rw [Tr.cells_length] at hlt
  have hk : j / 2 < xs.length := by omega
  have hc := h.2.2 ad rfl (j / 2) (by rw [← h.1]; exact hk)
  rcases Nat.mod_two_eq_zero_or_one j with h2 | h2
  · have e : j = j / 2 * 2 := by omega
    rw [e] at hj ⊢
    rw [Tr.cells_even _ _ hk] at hj
    rw [hc.1]
    exact hj
  · have e : j = j / 2 * 2 + 1 := by omega
    rw [e] at hj ⊢
    rw [Tr.cells_odd _ _ hk] at hj
    rw [hc.2]
    exact hj

/-! rows of the call's own -/
section
variable {w w' w'' : World} {base n g size : Nat} {e : TypeId} {v : Value} {ys : List Value}
theorem grown_tr {row : Option Nat} (h : w.grownBy w' row) (k : w'.grownBy w'' row) : w.grownBy w'' row :=
  ⟨k.os.trans h.os, k.tape.trans h.tape, k.output.trans h.output, Nat.le_trans h.size k.size, fun i hi hne => (k.block i (Nat.lt_of_lt_of_le hi h.size) hne).trans (h.block i hi hne)⟩
/-- a write into another row below the base -/
theorem own_grown (h : w.ownsRow base e size v n ys) {row : Option Nat} (hg : w.grownBy w' row) (hlt : ∀ g, row = some g → g < base) : w'.ownsRow base e size v n ys := by
  refine h.kept hg ?_
  rcases hb : v.ownBlock with _ | k
  · exact .inl rfl
  · refine .inr fun he => ?_
    have := h.lt k hb
    have := hlt k he.symm
    omega
/-- where a row of one element at least lies -/
theorem own_form {A : Option Addr} {c : Nat} (h : w.ownsRow base e size (.slice A n c) n ys) (hn : 0 < n) : ∃ g, A = some ⟨g, 0, none⟩ ∧ base ≤ g ∧ g < w.heap.size := by
  rcases h.2 with ⟨_, h0⟩ | ⟨g, cap, cur, hv, hg, hh, _⟩
  · omega
  · have hA : A = some ⟨g, 0, none⟩ := by injection hv
    have := h.lt g (by rw [hA]; rfl)
    exact ⟨g, hA, hg, this.2⟩
end

/-! marks -/
def Zs.marks (k : Int) (n : Nat) : List Int := (List.range n).map fun j => k + (j : Nat)
def Zs.marked (k : Int) (zs : List Int) (j : Nat) : List Int := Zs.marks k j ++ zs.drop j
theorem Zs.marks_length (k : Int) (n : Nat) : (Zs.marks k n).length = n := by simp [Zs.marks]
theorem Zs.marks_succ (k : Int) (j : Nat) : Zs.marks k (j + 1) = Zs.marks k j ++ [k + (j : Nat)] := by simp [Zs.marks, List.range_succ]
theorem Zs.marked_set (k : Int) (zs : List Int) (j : Nat) (h : j < zs.length) : (Zs.marked k zs j).set j (k + (j : Nat)) = Zs.marked k zs (j + 1) := by
  unfold Zs.marked
  rw [List.set_append_right _ _ (by simp [Zs.marks]), Zs.marks_length, Nat.sub_self, List.drop_eq_getElem_cons h, Zs.marks_succ, List.set_cons_zero, List.append_assoc]
  rfl
theorem Zs.marked_all (k : Int) (zs : List Int) : Zs.marked k zs zs.length = Zs.marks k zs.length := by simp [Zs.marked]
theorem Zs.marked_length (k : Int) (zs : List Int) (j : Nat) (h : j ≤ zs.length) : (Zs.marked k zs j).length = zs.length := by simp [Zs.marked, Zs.marks]; omega

def Tr.marks (k : Int) (n : Nat) : Tr := (List.range n).map fun j => (k + 2 * (j : Nat), k + 2 * (j : Nat) + 1)
def Tr.marked (k : Int) (xs : Tr) (j : Nat) : Tr := Tr.marks k j ++ xs.drop j
theorem Tr.marks_length (k : Int) (n : Nat) : (Tr.marks k n).length = n := by simp [Tr.marks]
theorem Tr.marks_l (k : Int) (n j : Nat) (h : j < n) : Tr.l (Tr.marks k n) j = k + 2 * (j : Nat) := by simp [Tr.l, Tr.marks, List.getD_eq_getElem?_getD, h]
theorem Tr.marks_d (k : Int) (n j : Nat) (h : j < n) : Tr.d (Tr.marks k n) j = k + 2 * (j : Nat) + 1 := by simp [Tr.d, Tr.marks, List.getD_eq_getElem?_getD, h]
theorem Tr.marks_succ (k : Int) (j : Nat) : Tr.marks k (j + 1) = Tr.marks k j ++ [(k + 2 * (j : Nat), k + 2 * (j : Nat) + 1)] := by simp [Tr.marks, List.range_succ]
theorem Tr.marked_set (k : Int) (xs : Tr) (j : Nat) (h : j < xs.length) : (Tr.marked k xs j).set j (k + 2 * (j : Nat), k + 2 * (j : Nat) + 1) = Tr.marked k xs (j + 1) := by
  unfold Tr.marked
  rw [List.set_append_right _ _ (by simp [Tr.marks]), Tr.marks_length, Nat.sub_self, List.drop_eq_getElem_cons h, Tr.marks_succ, List.set_cons_zero, List.append_assoc]
  rfl
theorem Tr.marked_all (k : Int) (xs : Tr) : Tr.marked k xs xs.length = Tr.marks k xs.length := by simp [Tr.marked]
theorem Tr.marked_length (k : Int) (xs : Tr) (j : Nat) (h : j ≤ xs.length) : (Tr.marked k xs j).length = xs.length := by simp [Tr.marked, Tr.marks]; omega

/-! append of one element, the elements of which lie in a new block -/
/-- out = append(out, T{a, b}) in a region that draws its order, out a row of such of the call's own -/
theorem step_append_node {P : Program} {ops : Array Oper} {o : Oper} {a : Act} (w : World) {K : Act → World → Prop} {Q : Exit → Act → World → Prop} {E : Prop} (hgd : o.guard = none) (s x : Operand) (t : TypeId)
    (ho : o.op = .call { callee := .builtin .append, args := #[s, x], argTypes := #[t, t] })
    (base : Nat) (e : TypeId) (i : TypeInfo) (ht : P.underlying t = some (.slice e)) (hi : P.info? e = some i) (hz : i.zero = some (.agg #[.int .i64 0, .int .i64 0]))
    (hsize : i.size = 2) (hby : i.bytes = 16) (v : Value) (n : Nat) (l : Tr) (hs : a.eval s = v) (hown : w.ownsRow base e 2 v n (Tr.cells l)) (hn : n = l.length)
    (b1 b2 : Int) (hx : a.eval x = .slice (some ⟨w.heap.size, 0, none⟩) 1 1)
    (h63 : l.length + 1 ≤ 1073741824) (hbase : base ≤ w.heap.size)
    (h : ∀ v' w', w'.ownsRow base e 2 v' (l ++ [(b1, b2)]).length (Tr.cells (l ++ [(b1, b2)])) → (w.alloc (.cells #[.int .i64 b1, .int .i64 b2] e)).grownBy w' v.ownBlock → K (a.put o.dst v') w') :
    if Region.wanted o (yielded ops a.tmps) = true then Oper.wp P o a (w.alloc (.cells #[.int .i64 b1, .int .i64 b2] e)) K Q else E := by
  have hw : Region.wanted o (yielded ops a.tmps) = true := by simp [Region.wanted, hgd]
  rw [if_pos hw]
  subst hn
  refine wp_append_own _ s x t ho base e i (.agg #[.int .i64 0, .int .i64 0]) 2 16 ht hi hz hsize hby rfl (by decide) v l.length (Tr.cells l) hs (hown.alloc _) ⟨w.heap.size, 0, none⟩ 1 1 (Tr.cells [(b1, b2)]) hx (by simp [Tr.cells]) ?_ (Tr.cells_cell _) (by unfold maxLen; omega) (by omega) (by simp; omega) ?_
  · intro j u hj
    have hj2 : j < 2 := by
      have := (List.getElem?_eq_some_iff.1 hj).1
      simpa [Tr.cells] using this
    have : j = 0 ∨ j = 1 := by omega
    rcases this with rfl | rfl <;> (simp [Tr.cells] at hj; subst hj; simp [Addr.add])
  · intro v' w' h2 h3 _
    refine h v' w' ?_ h3
    rw [Tr.cells_append, List.length_append]
    exact h2

end Go.Proofs.Ytofpcedpmbecgaa

/- Contracts (Res). -/
namespace Go.Proofs.Ytofpcedpmbecgaa
open Go.RowKit
set_option linter.unusedVariables false


/-- .. of nodes -/
def OwnNodes (E : TypeId) (xs : Tr) (w : World) (e : Ending) (w' : World) : Prop :=
  ∃ A c, e = .returned (.slice A xs.length c) ∧ w'.ownsRow w.heap.size E 2 (.slice A xs.length c) xs.length (Tr.cells xs) ∧ Below w.heap.size w w'
theorem own_slice {w : World} {base n size : Nat} {e : TypeId} {v : Value} {ys : List Value} (h : w.ownsRow base e size v n ys) : ∃ A c, v = .slice A n c := by
  rcases h.2 with ⟨rfl, rfl⟩ | ⟨g, cap, cur, rfl, _⟩
  · exact ⟨_, _, rfl⟩
  · exact ⟨_, _, rfl⟩
theorem own_drawn {w w' : World} {base n size : Nat} {e : TypeId} {v : Value} {ys : List Value} (h : w.ownsRow base e size v n ys) (k : Drawn w w') : w'.ownsRow base e size v n ys := own_below h k.toBelow
theorem own_nil {w : World} {base size : Nat} {e : TypeId} : w.ownsRow base e size (.slice none 0 0) 0 [] := World.ownsRow_nil w base e size
theorem own_base {w : World} {base base' n size : Nat} {e : TypeId} {v : Value} {ys : List Value} (h : w.ownsRow base e size v n ys) (hb : base' ≤ base) : w.ownsRow base' e size v n ys := by
  refine ⟨h.1, ?_⟩
  rcases h.2 with h | ⟨g, cap, cur, hv, hg, h⟩
  · exact .inl h
  · exact .inr ⟨g, cap, cur, hv, Nat.le_trans hb hg, h⟩
theorem Tr.endOf_yes {xs : Tr} {j : Nat} (h : Tr.has xs j = true) : Tr.endOf xs j = (Tr.endN xs j : Nat) := by simp [Tr.endOf, h]
theorem Tr.subTree_yes {xs : Tr} {j : Nat} (h : Tr.has xs j = true) : Tr.subTree xs j = Tr.subTo xs j (Tr.endN xs j) := by simp [Tr.subTree, h]
theorem Tr.subTree_len (xs : Tr) (i : Int) : (Tr.subTree xs i).length ≤ xs.length := by
  rcases h : Tr.has xs i with _ | _
  · rw [show Tr.subTree xs i = [] by simp [Tr.subTree, h]]; simp
  · have h1 := (Tr.has_iff.1 h).2
    obtain ⟨j, rfl⟩ := Int.eq_ofNat_of_zero_le h1.1
    rw [Tr.subTree_yes h, Tr.subTo_length]
    have := (Tr.endN_spec xs j (by omega)).2.1
    omega
theorem Tr.subTree_no {xs : Tr} {i : Int} (h : Tr.has xs i = false) : Tr.subTree xs i = [] := by simp [Tr.subTree, h]
end Go.Proofs.Ytofpcedpmbecgaa
