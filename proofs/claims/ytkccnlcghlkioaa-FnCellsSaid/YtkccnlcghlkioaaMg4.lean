/- Texts of one claim laid into one file, in build order: Cod, DepI, TreeOkI, HasI, EndOfI, RankI, PostI, LeafI, SlI, SlC, KeyI, CelI, HgtS, LvsS, Cells, ExCells. -/
import Derived.Test.YtkccnlcghlkioaaMg3
import Derived.BigQuiet
import Derived.Deep.RegionHeld3
import Derived.Outline
import Derived.Test.YtkccnlcghlkioaaRows
/- Contracts (Cod). -/
namespace Go.Proofs.Ytkccnlcghlkioaa
open Go.RowKit
set_option linter.unusedVariables false


theorem Num.varF_len' (f q : Nat) : (Num.varF f q).length ≤ f + 1 := by
  induction f generalizing q with
  | zero => by_cases h : q < 128 <;> simp [Num.varF]
  | succ f ih =>
    by_cases h : q < 128
    · rw [Num.varF_small _ _ h]; simp
    · rw [Num.varF_big _ _ (by omega)]
      have := ih (q / 128)
      simp; omega
/-- the bytes of a number -/
def Num.varB (n : Int) : ByteArray := ⟨(Num.varR n).toArray⟩
theorem Num.varB_size (n : Int) : (Num.varB n).size ≤ 7 := by
  unfold Num.varB
  show (Num.varR n).toArray.size ≤ 7
  simp only [List.size_toArray]
  unfold Num.varR
  split
  · have := Num.varF_len' 6 n.toNat
    omega
  · simp
/-- the bytes of a tree's count and of its first k nodes -/
def Tr.putTo (xs : Tr) : Nat → ByteArray
  | 0 => Num.varB xs.length
  | k + 1 => Tr.putTo xs k ++ Num.varB (Tr.l xs k) ++ Num.varB (Tr.d xs k)
def Tr.put (xs : Tr) : ByteArray := if Tr.ok xs then Tr.putTo xs xs.length else ⟨#[]⟩
theorem Tr.putTo_size (xs : Tr) (k : Nat) : (Tr.putTo xs k).size ≤ 7 + 14 * k := by
  induction k with
  | zero => exact Num.varB_size _
  | succ k ih =>
    have h1 := Num.varB_size (Tr.l xs k)
    have h2 := Num.varB_size (Tr.d xs k)
    simp only [Tr.putTo, ByteArray.size_append]
    omega
theorem Tr.putTo_two (xs : Tr) (k : Nat) : Tr.putTo xs (k + 1) = Tr.putTo xs k ++ (Num.varB (Tr.l xs k) ++ Num.varB (Tr.d xs k)) := by
  simp only [Tr.putTo, ByteArray.append_assoc]

/-- may a node of depth d come behind the first n nodes -/
def Tr.fits (xs : Tr) (n : Nat) (d : Int) : Bool := if n = 0 then decide (d = 0) else decide (1 ≤ d ∧ d ≤ Tr.d xs (n - 1) + 1)
theorem Tr.okAt_fits {xs : Tr} {k : Nat} (h1 : 0 ≤ Tr.l xs k ∧ Tr.l xs k ≤ 5) (h0 : 0 < k → 0 ≤ Tr.d xs (k - 1)) : Tr.okAt xs k = (decide (Tr.d xs k ≤ 12) && Tr.fits xs k (Tr.d xs k)) := by
  rw [Tr.okAt, Tr.fits, Bool.eq_iff_iff]
  by_cases hk : k = 0
  · simp [hk] at h1 ⊢; omega
  · have := h0 (by omega)
    simp [hk]; omega

/-- what stands behind the first u bytes -/
def Num.rest (t : ByteArray) (u : Nat) : ByteArray := t.extract u t.size
theorem Num.rest_size (t : ByteArray) (u : Nat) : (Num.rest t u).size = t.size - u := by simp [Num.rest]
theorem Num.rest_rest (t : ByteArray) (u v : Nat) : Num.rest (Num.rest t u) v = Num.rest t (u + v) := by
  unfold Num.rest
  rw [ByteArray.extract_extract, ByteArray.size_extract]
  congr 1
  omega

/-- the node at the start of t, behind the nodes xs: the node, its length, its code -/
def Tr.node (t : ByteArray) (xs : Tr) : (Int × Int) × Nat × Int :=
  if Num.rvK t = 0 then ((0, 0), 0, 1)
  else if Lab.ok (Num.rvN t) = false then ((0, 0), 0, 3)
  else if Num.rvK (Num.rest t (Num.rvK t)) = 0 then ((0, 0), 0, 1)
  else if 12 < Num.rvN (Num.rest t (Num.rvK t)) then ((0, 0), 0, 4)
  else if Tr.fits xs xs.length (Num.rvN (Num.rest t (Num.rvK t))) = false then ((0, 0), 0, 5)
  else (((Num.rvN t : Int), (Num.rvN (Num.rest t (Num.rvK t)) : Int)), Num.rvK t + Num.rvK (Num.rest t (Num.rvK t)), 0)
/-- r nodes off t, behind the nodes xs: all nodes and the code -/
def Tr.getB : Nat → ByteArray → Tr → Tr × Int
  | 0, t, xs => if t.size = 0 then (xs, 0) else ([], 6)
  | r + 1, t, xs => if (Tr.node t xs).2.2 = 0 then Tr.getB r (Num.rest t (Tr.node t xs).2.1) (xs ++ [(Tr.node t xs).1]) else ([], (Tr.node t xs).2.2)
def Tr.get (s : ByteArray) : Tr × Int :=
  if Num.rvK s = 0 then ([], 1)
  else if 1 ≤ Num.rvN s ∧ Num.rvN s ≤ 24 then Tr.getB (Num.rvN s) (Num.rest s (Num.rvK s)) []
  else ([], 2)

section
variable {t : ByteArray} {xs : Tr}
theorem Tr.node_n1 (h : Num.rvK t = 0) : Tr.node t xs = ((0, 0), 0, 1) := by unfold Tr.node; rw [if_pos h]
theorem Tr.node_n2 (h : ¬ Num.rvK t = 0) (h2 : Lab.ok (Num.rvN t) = false) : Tr.node t xs = ((0, 0), 0, 3) := by unfold Tr.node; rw [if_neg h, if_pos h2]
theorem Tr.node_n3 (h : ¬ Num.rvK t = 0) (h2 : Lab.ok (Num.rvN t) = true) (h3 : Num.rvK (Num.rest t (Num.rvK t)) = 0) : Tr.node t xs = ((0, 0), 0, 1) := by
  unfold Tr.node; rw [if_neg h, if_neg (by simp [h2]), if_pos h3]
theorem Tr.node_n4 (h : ¬ Num.rvK t = 0) (h2 : Lab.ok (Num.rvN t) = true) (h3 : ¬ Num.rvK (Num.rest t (Num.rvK t)) = 0) (h4 : 12 < Num.rvN (Num.rest t (Num.rvK t))) : Tr.node t xs = ((0, 0), 0, 4) := by
  unfold Tr.node; rw [if_neg h, if_neg (by simp [h2]), if_neg h3, if_pos h4]
theorem Tr.node_n5 (h : ¬ Num.rvK t = 0) (h2 : Lab.ok (Num.rvN t) = true) (h3 : ¬ Num.rvK (Num.rest t (Num.rvK t)) = 0) (h4 : ¬ 12 < Num.rvN (Num.rest t (Num.rvK t)))
    (h5 : Tr.fits xs xs.length (Num.rvN (Num.rest t (Num.rvK t))) = false) : Tr.node t xs = ((0, 0), 0, 5) := by
  unfold Tr.node; rw [if_neg h, if_neg (by simp [h2]), if_neg h3, if_neg h4, if_pos h5]
theorem Tr.node_y (h : ¬ Num.rvK t = 0) (h2 : Lab.ok (Num.rvN t) = true) (h3 : ¬ Num.rvK (Num.rest t (Num.rvK t)) = 0) (h4 : ¬ 12 < Num.rvN (Num.rest t (Num.rvK t)))
    (h5 : Tr.fits xs xs.length (Num.rvN (Num.rest t (Num.rvK t))) = true) :
    Tr.node t xs = (((Num.rvN t : Int), (Num.rvN (Num.rest t (Num.rvK t)) : Int)), Num.rvK t + Num.rvK (Num.rest t (Num.rvK t)), 0) := by
  unfold Tr.node; rw [if_neg h, if_neg (by simp [h2]), if_neg h3, if_neg h4, if_neg (by simp [h5])]
theorem Num.rvK_le (s : ByteArray) : Num.rvK s ≤ 7 ∧ Num.rvK s ≤ s.size := by
  have := Num.vsize_le s.data.toList
  unfold Num.rvK
  split
  · simpa using this
  · omega
theorem Num.rvN_le (s : ByteArray) : Num.rvN s ≤ 562949953421311 := Num.val7_small _ (by have := (Num.rvK_le s).1; simp; omega)
/-- a node is read, or there is none -/
theorem Tr.node_cases (t : ByteArray) (xs : Tr) : (∃ code : Int, Tr.node t xs = ((0, 0), 0, code) ∧ 1 ≤ code ∧ code ≤ 5) ∨
    (∃ (l d : Int) (u : Nat), Tr.node t xs = ((l, d), u, 0) ∧ u ≤ t.size ∧ (0 ≤ l ∧ l ≤ 5) ∧ (0 ≤ d ∧ d ≤ 12)) := by
  by_cases h : Num.rvK t = 0
  · exact .inl ⟨_, Tr.node_n1 h, by omega, by omega⟩
  · rcases h2 : Lab.ok (Num.rvN t) with _ | _
    · exact .inl ⟨_, Tr.node_n2 h h2, by omega, by omega⟩
    · by_cases h3 : Num.rvK (Num.rest t (Num.rvK t)) = 0
      · exact .inl ⟨_, Tr.node_n3 h h2 h3, by omega, by omega⟩
      · by_cases h4 : 12 < Num.rvN (Num.rest t (Num.rvK t))
        · exact .inl ⟨_, Tr.node_n4 h h2 h3 h4, by omega, by omega⟩
        · rcases h5 : Tr.fits xs xs.length (Num.rvN (Num.rest t (Num.rvK t))) with _ | _
          · exact .inl ⟨_, Tr.node_n5 h h2 h3 h4 h5, by omega, by omega⟩
          · refine .inr ⟨_, _, _, Tr.node_y h h2 h3 h4 h5, ?_, ?_, ?_⟩
            · have h6 := Num.rvK_le (Num.rest t (Num.rvK t))
              have h7 := Num.rvK_le t
              rw [Num.rest_size] at h6
              omega
            · simpa [Lab.ok] using h2
            · omega
end
theorem Tr.getB_end {t : ByteArray} {xs : Tr} (h : t.size = 0) : Tr.getB 0 t xs = (xs, 0) := by unfold Tr.getB; rw [if_pos h]
theorem Tr.getB_left {t : ByteArray} {xs : Tr} (h : ¬ t.size = 0) : Tr.getB 0 t xs = ([], 6) := by unfold Tr.getB; rw [if_neg h]
theorem Tr.getB_no {r : Nat} {t : ByteArray} {xs : Tr} {p : Int × Int} {u : Nat} {code : Int} (h : Tr.node t xs = (p, u, code)) (hc : 1 ≤ code) : Tr.getB (r + 1) t xs = ([], code) := by
  unfold Tr.getB; rw [h, if_neg (show ¬ code = 0 by omega)]
theorem Tr.getB_yes {r : Nat} {t : ByteArray} {xs : Tr} {p : Int × Int} {u : Nat} (h : Tr.node t xs = (p, u, 0)) : Tr.getB (r + 1) t xs = Tr.getB r (Num.rest t u) (xs ++ [p]) := by
  show (if (Tr.node t xs).2.2 = 0 then Tr.getB r (Num.rest t (Tr.node t xs).2.1) (xs ++ [(Tr.node t xs).1]) else ([], (Tr.node t xs).2.2)) = _
  rw [h, if_pos rfl]
theorem Tr.getB_len (r : Nat) (t : ByteArray) (xs : Tr) : (Tr.getB r t xs).1.length ≤ xs.length + r := by
  induction r generalizing t xs with
  | zero => unfold Tr.getB; split <;> simp
  | succ r ih =>
    unfold Tr.getB
    split
    · refine Nat.le_trans (ih _ _) ?_
      simp; omega
    · simp
theorem Tr.get_len (s : ByteArray) : (Tr.get s).1.length ≤ 24 := by
  unfold Tr.get
  split
  · simp
  · split
    · refine Nat.le_trans (Tr.getB_len _ _ _) ?_
      simp; omega
    · simp
theorem Tr.get_n1 {s : ByteArray} (h : Num.rvK s = 0) : Tr.get s = ([], 1) := by unfold Tr.get; rw [if_pos h]
theorem Tr.get_n2 {s : ByteArray} (h : ¬ Num.rvK s = 0) (h2 : ¬ (1 ≤ Num.rvN s ∧ Num.rvN s ≤ 24)) : Tr.get s = ([], 2) := by unfold Tr.get; rw [if_neg h, if_neg h2]
theorem Tr.get_y {s : ByteArray} (h : ¬ Num.rvK s = 0) (h2 : 1 ≤ Num.rvN s ∧ Num.rvN s ≤ 24) : Tr.get s = Tr.getB (Num.rvN s) (Num.rest s (Num.rvK s)) [] := by unfold Tr.get; rw [if_neg h, if_pos h2]

end Go.Proofs.Ytkccnlcghlkioaa

/- Contracts (DepI). -/
namespace Go.Proofs.Ytkccnlcghlkioaa
open Go.RowKit
set_option linter.unusedVariables false

set_option maxHeartbeats 800000 in
set_option maxRecDepth 100000 in
theorem depthFits_any (A : Option Addr) (n c : Nat) (xs : Tr) (d : Int) (w : World) (h : NdIn w w.heap.size A n xs) (hn : n ≤ 1048576) (hb : 0 < n → 0 ≤ Tr.d xs (n - 1) ∧ Tr.d xs (n - 1) ≤ 12) :
    Calls Try.prog 87 #[.slice A n c, .int .i64 d] w fun e w' => e = .returned (.bool (Tr.fits xs n d)) ∧ w = w' := by
  have H := Lib.hid h
  clear h
  rcases Nat.eq_zero_or_pos n with rfl | h0
  · have Hf := Lib.hid (show Tr.fits xs 0 d = (d == 0) by rw [Tr.fits, if_pos rfl, Bool.eq_iff_iff]; simp)
    clear hb
    go_enter Try.func87, Try.ntmps87
    go_wp2
    go_ret
    exact ⟨Kit.ret_bool Hf.out.symm, rfl⟩
  · obtain ⟨ad, rfl, _, hl', hd'⟩ := H.out.at_ (k := n - 1) (by omega)
    have hbd := hb h0
    have e0 : ((n : Int) == 0) = false := beq_eq_false_iff_ne.2 (by omega)
    have a1 : IntKind.i64.wrap ((n : Int) - 1) = (n : Int) - 1 := Kit.w64 (by omega) (by omega)
    have a2 : ((n : Int) - 1).toNat = n - 1 := by omega
    have a3 : (1 : Int) ≤ (n : Int) := by omega
    have a4 : (n : Int) - 1 < (n : Int) := by omega
    have a5 : IntKind.i64.wrap (Tr.d xs (n - 1) + 1) = Tr.d xs (n - 1) + 1 := Kit.w64 (by omega) (by omega)
    have Hf := Lib.hid (show Tr.fits xs n d = (decide (1 ≤ d) && decide (d ≤ Tr.d xs (n - 1) + 1)) by rw [Tr.fits, if_neg (by omega), Bool.eq_iff_iff]; simp)
    clear hb hbd
    by_cases h1 : 1 ≤ d
    · have e1 : decide (1 ≤ d) = true := by simpa using h1
      rw [e1] at Hf
      go_enter Try.func87, Try.ntmps87
      go_wp2
      go_ret
      exact ⟨Kit.ret_bool (by rw [Hf.out]; simp), rfl⟩
    · have e1 : decide (1 ≤ d) = false := by simpa using h1
      rw [e1] at Hf
      go_enter Try.func87, Try.ntmps87
      go_wp2
      go_ret
      exact ⟨Kit.ret_bool (by rw [Hf.out]; simp), rfl⟩

end Go.Proofs.Ytkccnlcghlkioaa

/- Contracts (TreeOkI). -/
namespace Go.Proofs.Ytkccnlcghlkioaa
open Go.RowKit
set_option linter.unusedVariables false

theorem Tr.fits_take {xs : Tr} {k : Nat} {d : Int} : Tr.fits (xs.take k) k d = Tr.fits xs k d := by
  unfold Tr.fits
  by_cases h : k = 0
  · simp [h]
  · rw [if_neg h, if_neg h]
    simp [Tr.d, List.getD_eq_getElem?_getD, show k - 1 < k by omega]
theorem Tr.d_take {xs : Tr} {k j : Nat} (h : j < k) : Tr.d (xs.take k) j = Tr.d xs j := by simp [Tr.d, List.getD_eq_getElem?_getD, h]
theorem NdIn.head {w : World} {B n : Nat} {A : Option Addr} {xs : Tr} (h : NdIn w B A n xs) {k : Nat} (hk : k ≤ n) : NdIn w B A k (xs.take k) := by
  refine ⟨by have := h.1; simp; omega, fun h0 => h.2.1 (by omega), fun ad e j hj => ?_⟩
  have := h.2.2 ad e j (by omega)
  have hg : (xs.take k).getD j (0, 0) = xs.getD j (0, 0) := by simp [List.getD_eq_getElem?_getD, hj]
  simp only [Tr.l, Tr.d] at this ⊢
  rw [hg]
  exact this
set_option maxHeartbeats 800000 in
set_option maxRecDepth 100000 in
theorem implTreeOk_any (A : Option Addr) (n c : Nat) (xs : Tr) (w : World) (h : NdIn w w.heap.size A n xs) (hn : n ≤ 1048576) (hnc : n ≤ c) :
    Calls Try.prog 68 #[.slice A n c] w fun e w' => e = .returned (.bool (Tr.ok xs)) ∧ Below w.heap.size w w' := by
  have H := Lib.hid h
  clear h
  have HL := Lib.hid H.out.1
  by_cases hn1 : n < 1
  · have Hf := Lib.hid (show Tr.ok xs = false by rw [Bool.eq_false_iff, Ne, Tr.ok_iff, HL.out]; omega)
    go_enter Try.func68, Try.ntmps68
    go_wp2
    go_ret
    exact ⟨Kit.ret_bool Hf.out.symm, Below.refl _ _⟩
  by_cases hn2 : 24 < n
  · have Hf := Lib.hid (show Tr.ok xs = false by rw [Bool.eq_false_iff, Ne, Tr.ok_iff, HL.out]; omega)
    go_enter Try.func68, Try.ntmps68
    go_wp2
    go_ret
    exact ⟨Kit.ret_bool Hf.out.symm, Below.refl _ _⟩
  obtain ⟨ad, rfl, _⟩ := H.out.2.1 (by omega)
  go_enter Try.func68, Try.ntmps68
  go_wp2
  go_loopw [15] (fun iv wr => ∃ k : Nat, k ≤ n ∧ iv = .int .i64 k ∧ Tr.okTo xs k ∧ Below w.heap.size w wr) (fun i _ => n - (intOf i).toNat)
  case atStart => exact ⟨0, Nat.zero_le _, rfl, fun j hj => absurd hj (by omega), Below.refl _ _⟩
  case round =>
    obtain ⟨k, hk, rfl, hok, hB⟩ := hrel
    have hsz := hB.size
    have Hok := Lib.hid hok
    have HB := Lib.hid hB
    clear hok hB
    by_cases hlt : k < n
    · obtain ⟨hl, hd⟩ := (H.out.below HB.out).here hlt
      have hkc : (k : Int) ≤ (c : Int) := by omega
      have hk0 : (0 : Int) ≤ (k : Int) := by omega
      have Hbk := Lib.hid (show 0 < k → 0 ≤ Tr.d (xs.take k) (k - 1) ∧ Tr.d (xs.take k) (k - 1) ≤ 12 by
        intro h0
        rw [Tr.d_take (by omega)]
        exact (Tr.okTo_at Hok.out (show k - 1 < k by omega)).2.1)
      have Hfit := Lib.hid (Tr.fits_take (xs := xs) (k := k) (d := Tr.d xs k))
      have Hc := Lib.hid (((H.out.below HB.out).more HB.out.size).to_below ((Below.refl _ _).alloc (Nat.le_refl _) (.cells #[.int .i64 (Tr.l xs k), .int .i64 (Tr.d xs k)] 71)) |>.head (Nat.le_of_lt hlt))
      by_cases h1 : 0 ≤ Tr.l xs k ∧ Tr.l xs k ≤ 5
      · have h1' : Lab.ok (Tr.l xs k) = true := by simp [Lab.ok, h1]
        have Hat := Lib.hid (Tr.okAt_fits (xs := xs) (k := k) h1 (fun h0 => (Tr.okTo_at Hok.out (show k - 1 < k by omega)).2.1.1))
        clear h1
        by_cases h2 : Tr.d xs k ≤ 12
        · have e2 : decide (12 < Tr.d xs k) = false := by simpa using h2
          cases h3 : Tr.fits (xs.take k) k (Tr.d xs k) with
          | true =>
            have Hk := Lib.hid (show Tr.okAt xs k = true by rw [Hat.out, ← Hfit.out, h3]; simp [h2])
            clear h2
            go_wp2
            go_quiet (first
              | (go_at_call 86; exact quiet_same (implLabelOk_any _ _))
              | (go_at_call 87; exact quiet_same (depthFits_any _ _ _ _ _ _ (Hc.out.drewN _) (by omega) Hbk.out)))
            go_wp2
            go_roundw
            case rel => exact ⟨k + 1, by omega, by go_num, Tr.okTo_succ Hok.out Hk.out, Drawn.below (HB.out.alloc HB.out.size _) ⟨_, rfl⟩⟩
            case measure => simp [intOf]; omega
          | false =>
            have Hf := Lib.hid (Tr.not_ok (xs := xs) (k := k) (by rw [HL.out]; exact hlt) (by rw [Hat.out, ← Hfit.out, h3]; simp))
            clear h2
            go_wp2
            go_quiet (first
              | (go_at_call 86; exact quiet_same (implLabelOk_any _ _))
              | (go_at_call 87; exact quiet_same (depthFits_any _ _ _ _ _ _ (Hc.out.drewN _) (by omega) Hbk.out)))
            go_wp2
            go_ret
            exact ⟨Kit.ret_bool Hf.out.symm, Drawn.below (HB.out.alloc HB.out.size _) ⟨_, rfl⟩⟩
        · have e2 : decide (12 < Tr.d xs k) = true := by simpa using h2
          have Hf := Lib.hid (Tr.not_ok (xs := xs) (k := k) (by rw [HL.out]; exact hlt) (by rw [Hat.out]; simp [h2]))
          clear h2
          go_wp2
          go_quiet (first
            | (go_at_call 86; exact quiet_same (implLabelOk_any _ _))
            | (go_at_call 87; exact quiet_same (depthFits_any _ _ _ _ _ _ (Hc.out.drewN _) (by omega) Hbk.out)))
          go_wp2
          go_ret
          exact ⟨Kit.ret_bool Hf.out.symm, Drawn.below (HB.out.alloc HB.out.size _) ⟨_, rfl⟩⟩
      · have h1' : Lab.ok (Tr.l xs k) = false := by simpa [Lab.ok] using h1
        have Hf := Lib.hid (Tr.not_ok (xs := xs) (k := k) (by rw [HL.out]; exact hlt) (by simp [Tr.okAt]; omega))
        clear h1
        go_wp2
        go_quiet (first
          | (go_at_call 86; exact quiet_same (implLabelOk_any _ _))
          | (go_at_call 87; exact quiet_same (depthFits_any _ _ _ _ _ _ (Hc.out.drewN _) (by omega) Hbk.out)))
        go_wp2
        go_ret
        exact ⟨Kit.ret_bool Hf.out.symm, Drawn.below (HB.out.alloc HB.out.size _) ⟨_, rfl⟩⟩
    · obtain rfl : k = n := by omega
      go_wp2
      go_ret
      exact ⟨Kit.ret_bool (Tr.ok_iff.2 (by rw [HL.out]; exact ⟨Hok.out, by omega, by omega⟩)).symm, HB.out⟩

end Go.Proofs.Ytkccnlcghlkioaa

/- Contracts (HasI). -/
namespace Go.Proofs.Ytkccnlcghlkioaa
open Go.RowKit
set_option linter.unusedVariables false

set_option maxHeartbeats 800000 in
set_option maxRecDepth 100000 in
theorem hasNode_any (A : Option Addr) (n c : Nat) (xs : Tr) (i : Int) (w : World) (h : NdIn w w.heap.size A n xs) (hn : n ≤ 1048576) (hnc : n ≤ c) :
    Calls Try.prog 102 #[.slice A n c, .int .i64 i] w fun e w' => e = .returned (.bool (Tr.has xs i)) ∧ Below w.heap.size w w' := by
  have H := Lib.hid h
  clear h
  have HL := Lib.hid H.out.1
  by_cases h0 : 0 ≤ i
  · by_cases h1 : i < n
    · have Hs := Lib.hid (show Tr.has xs i = Tr.ok xs by simp [Tr.has, HL.out, h0, h1])
      go_enter Try.func102, Try.ntmps102
      go_wp2_with (go_at_call 68; refine (implTreeOk_any _ _ _ xs _ H.out hn hnc).mono ?_; rintro e w1 ⟨rfl, hb⟩)
      go_ret
      exact ⟨Kit.ret_bool Hs.out.symm, hb⟩
    · have Hs := Lib.hid (show Tr.has xs i = false by simp [Tr.has, HL.out, h1])
      go_enter Try.func102, Try.ntmps102
      go_wp2
      go_ret
      exact ⟨Kit.ret_bool Hs.out.symm, Below.refl _ _⟩
  · have Hs := Lib.hid (show Tr.has xs i = false by simp [Tr.has, h0])
    have h0' : decide (0 ≤ i) = false := by simpa using h0
    go_enter Try.func102, Try.ntmps102
    go_wp2
    go_ret
    exact ⟨Kit.ret_bool Hs.out.symm, Below.refl _ _⟩

end Go.Proofs.Ytkccnlcghlkioaa

/- Contracts (EndOfI). -/
namespace Go.Proofs.Ytkccnlcghlkioaa
open Go.RowKit
set_option linter.unusedVariables false

set_option maxHeartbeats 800000 in
set_option maxRecDepth 100000 in
theorem implEndOf_any (A : Option Addr) (n c : Nat) (xs : Tr) (i : Int) (w : World) (h : NdIn w w.heap.size A n xs) (hn : n ≤ 1048576) (hnc : n ≤ c) :
    Calls Try.prog 101 #[.slice A n c, .int .i64 i] w fun e w' => e = .returned (.int .i64 (Tr.endOf xs i)) ∧ Below w.heap.size w w' := by
  have H := Lib.hid h
  clear h
  have HL := Lib.hid H.out.1
  rcases hok : Tr.has xs i with _ | _
  · have Hf := Lib.hid (show Tr.endOf xs i = -1 by simp [Tr.endOf, hok])
    have Hok := Lib.hid hok
    clear hok
    go_enter Try.func101, Try.ntmps101
    go_wp2_with fail
    refine (hasNode_any _ _ _ xs _ _ H.out hn hnc).mono ?_
    rintro e w1 ⟨rfl, hd⟩
    rw [Hok.out]
    go_wp2
    go_ret
    exact ⟨Kit.ret_int Hf.out.symm, hd⟩
  · have h1 := (Tr.has_iff.1 hok).2
    rw [HL.out] at h1
    have Hf := Lib.hid (show Tr.endOf xs i = Tr.endN xs i.toNat by simp [Tr.endOf, hok])
    have Hok := Lib.hid hok
    clear hok
    obtain ⟨j, rfl⟩ := Int.eq_ofNat_of_zero_le h1.1
    have hj : j < n := by omega
    clear h1
    go_enter Try.func101, Try.ntmps101
    go_wp2_with fail
    refine (hasNode_any _ _ _ xs _ _ H.out hn hnc).mono ?_
    rintro e w1 ⟨rfl, hd1⟩
    have Hd1 := Lib.hid hd1
    have H1 := Lib.hid (H.out.below Hd1.out)
    clear hd1
    rw [Hok.out]
    go_wp2
    go_loopw [5] (fun kv wr => ∃ k : Nat, j < k ∧ k ≤ n ∧ kv = .int .i64 k ∧ (∀ m, j < m → m < k → Tr.d xs j < Tr.d xs m) ∧ Drawn w1 wr) (fun k _ => n - (intOf k).toNat)
    case atStart => exact ⟨j + 1, by omega, by omega, by go_num, fun m h1 h2 => absurd h1 (by omega), Drawn.refl _⟩
    case round =>
      obtain ⟨k, hjk, hk, rfl, hall, hD⟩ := hrel
      have Hall := Lib.hid hall
      clear hall
      have hk0 : (0 : Int) ≤ (k : Int) := by omega
      have hj0 : (0 : Int) ≤ (j : Int) := by omega
      by_cases hlt : k < n
      · have hltd : decide (k < n) = true := by simpa using hlt
        obtain ⟨ad, rfl, hb, hl, hd⟩ := (H1.out.drawn hD).at_ hlt
        obtain ⟨hl', hd'⟩ := (H1.out.drawn hD).here hj
        clear hl hl'
        by_cases hgt : Tr.d xs j < Tr.d xs k
        · have hg : decide (Tr.d xs j < Tr.d xs k) = true := by simpa using hgt
          have Hg := Lib.hid hgt
          clear hgt
          go_wp2
          go_quiet (fail)
          go_wp2
          go_roundw
          case rel => exact ⟨k + 1, by omega, by omega, by go_num, fun m h1 h2 => by
            rcases Nat.lt_succ_iff_lt_or_eq.1 h2 with h' | rfl
            · exact Hall.out m h1 h'
            · exact Hg.out, hD.drewN _⟩
          case measure => simp [intOf]; omega
        · have hg : decide (Tr.d xs j < Tr.d xs k) = false := by simpa using hgt
          have He := Lib.hid (Tr.endN_is (xs := xs) hjk (by rw [HL.out]; exact hk) Hall.out (.inr (by omega)))
          clear hgt
          go_wp2
          go_quiet (fail)
          go_wp2
          go_ret
          exact ⟨Kit.ret_int (by rw [Hf.out, Int.toNat_natCast, He.out]), Drawn.below Hd1.out (hD.drewN _)⟩
      · have hltd : decide (k < n) = false := by simpa using hlt
        obtain rfl : k = n := by omega
        have He := Lib.hid (Tr.endN_is (xs := xs) hjk (by rw [HL.out]; exact hk) Hall.out (.inl HL.out.symm))
        go_wp2
        go_quiet (fail)
        go_wp2
        go_ret
        exact ⟨Kit.ret_int (by rw [Hf.out, Int.toNat_natCast, He.out]), Drawn.below Hd1.out (hD.drewN _)⟩

end Go.Proofs.Ytkccnlcghlkioaa

/- Contracts (RankI). -/
namespace Go.Proofs.Ytkccnlcghlkioaa
open Go.RowKit
set_option linter.unusedVariables false

theorem Tr.rks_val {xs : Tr} (hok : Tr.ok xs = true) {k : Nat} (hk : k < xs.length) : Zs.at (Zs.up (Tr.rks xs)) k = (Tr.rk xs k : Nat) := by
  have := Tr.post_length hok
  rw [Zs.up_at _ _ (by rw [Tr.rks_length]; omega)]
  simp [Tr.rks]
theorem Tr.rk_sum {xs : Tr} (hok : Tr.ok xs = true) {k : Nat} (hk : k < xs.length) : Tr.endOf xs (k : Int) - 1 - Tr.d xs k = (Tr.rk xs k : Nat) := by
  have h1 := (Tr.endN_dn hok hk).1
  have h2 := Tr.dn_eq hok hk
  have h3 := Tr.dn_le hok hk
  rw [Tr.endOf_yes (Tr.has_iff.2 ⟨hok, by omega, by omega⟩)]
  unfold Tr.rk
  omega
set_option maxHeartbeats 1600000 in
set_option maxRecDepth 100000 in
theorem implRankOf_any (A : Option Addr) (n c : Nat) (xs : Tr) (w : World) (h : NdIn w w.heap.size A n xs) (hn : n ≤ 1048576) (hnc : n ≤ c) :
    Calls Try.prog 98 #[.slice A n c] w (OwnInts 3 (Zs.up (Tr.rks xs)) w) := by
  have H := Lib.hid h
  clear h
  have HL := Lib.hid H.out.1
  rcases hok : Tr.ok xs with _ | _
  · have Hf := Lib.hid (show Zs.up (Tr.rks xs) = [] by unfold Tr.rks; rw [Tr.post_none hok]; rfl)
    have Hok := Lib.hid hok
    clear hok
    go_enter Try.func98, Try.ntmps98
    go_wp2_with fail
    refine (implTreeOk_any _ _ _ xs _ H.out hn hnc).mono ?_
    rintro e w1 ⟨rfl, hb⟩
    have HB := Lib.hid hb
    clear hb
    rw [Hok.out]
    go_wp2
    go_ret
    exact ⟨_, _, by rw [Hf.out]; rfl, by rw [Hf.out]; exact own_nil, HB.out⟩
  · have hle := (Tr.ok_iff.1 hok).2
    have hpl := Tr.post_length hok
    rw [HL.out] at hle hpl
    obtain ⟨F, hF⟩ : ∃ F, F = Zs.up (Tr.rks xs) := ⟨_, rfl⟩
    have HFl := Lib.hid (show F.length = n by rw [hF, Zs.up_length, Tr.rks_length, hpl])
    have HFa := Lib.hid (fun k hk => (congrArg (fun G => Zs.at G k) hF).trans (Tr.rks_val hok (k := k) hk))
    have HS := Lib.hid (fun k hk => Tr.rk_sum hok (k := k) hk)
    have HE := Lib.hid (fun k hk => Tr.endN_dn hok (i := k) hk)
    have HY := Lib.hid (fun (k : Nat) (hk : k < xs.length) => Tr.endOf_yes (Tr.has_iff.2 ⟨hok, Int.natCast_nonneg k, Int.ofNat_lt.2 hk⟩))
    have HD := Lib.hid (fun k hk => (Tr.ok_at hok (k := k) hk).2.1)
    have HF := Lib.hid hF
    obtain ⟨i0, hi, hz0, hz1, hz2⟩ := info_parts info_intZ
    have Hi := Lib.hid hi
    have Hok := Lib.hid hok
    clear hi hok hF hpl
    obtain ⟨ad, rfl, had⟩ := H.out.2.1 (by omega)
    go_enter Try.func98, Try.ntmps98
    go_wp2_with fail
    refine (implTreeOk_any _ _ _ xs _ H.out hn hnc).mono ?_
    rintro e w1 ⟨rfl, hb⟩
    have HB := Lib.hid hb
    have H1 := Lib.hid (H.out.to_below hb)
    clear hb
    rw [Hok.out]
    obtain ⟨m, hm⟩ : ∃ m, m = n := ⟨_, rfl⟩
    have hmb : m ≤ 24 := by omega
    go_wp2_with (at_make; go_loud (refine wpList_make_full _ rfl _ _ 25 rfl w1.heap.size 3 i0 (.int .i64 0) 1 Try.underlying25 Hi.out hz0 hz1 _ _ _ _ n rfl rfl rfl rfl (by rw [hz2]; omega) (by unfold maxLen; omega) (Nat.le_refl _) ?_); intro w2 hown2 hgrow2)
    have hb2 : Below w1.heap.size w1 w2 := (Below.refl _ w1).grown hgrow2 (Nat.le_refl _) (fun _ h => by cases h)
    rw [made_zeros 0 n, show List.replicate n (0 : Int) = Zs.part F 0 by rw [Zs.part_zero, HFl.out]] at hown2
    have HO2 := Lib.hid hown2
    have HB2 := Lib.hid hb2
    clear hown2 hgrow2 hb2 hm hmb
    go_wp2
    go_loopw [14] (fun kv wr => ∃ k : Nat, k ≤ n ∧ kv = .int .i64 k ∧ wr.ownsRow w1.heap.size 3 1 (.slice (some ⟨w1.heap.size, 0, none⟩) n n) n (ints (Zs.part F k)) ∧ Below w1.heap.size w1 wr) (fun k _ => n - (intOf k).toNat)
    case atStart => exact ⟨0, Nat.zero_le _, rfl, HO2.out, HB2.out⟩
    case round =>
      clear HO2 HB2
      obtain ⟨k, hk, rfl, hown, hB⟩ := hrel
      have Ho := Lib.hid hown
      have HB2 := Lib.hid hB
      clear hown hB
      have hsz := HB2.out.size
      by_cases hlt : k < n
      · have hlx : k < xs.length := by rw [HL.out]; exact hlt
        obtain ⟨hl, hd⟩ := (H1.out.below HB2.out).here hlt
        have hs := HS.out k hlx
        have he := HE.out k hlx
        have hy := HY.out k hlx
        have hdd := HD.out k hlx
        have b0 : (0 : Int) ≤ (k : Int) := by omega
        have b1 : (k : Int) < (n : Int) := by omega
        have hfa := HFa.out k hlx
        have hxl := HL.out
        have hy0 : (0 : Int) ≤ Tr.endOf xs (k : Int) ∧ Tr.endOf xs (k : Int) ≤ 24 := by rw [hy]; omega
        have a1 : IntKind.i64.wrap (Tr.endOf xs (k : Int) - 1) = Tr.endOf xs (k : Int) - 1 := Kit.w64 (by omega) (by omega)
        have a2 : IntKind.i64.wrap (Tr.endOf xs (k : Int) - 1 - Tr.d xs k) = Tr.endOf xs (k : Int) - 1 - Tr.d xs k := Kit.w64 (by omega) (by omega)
        have hgl := (Ho.out.lt w1.heap.size rfl).2
        have hne : (⟨w1.heap.size, k, none⟩ : Addr) ≠ ⟨wr.heap.size, 1, none⟩ := fun e => by injection e; omega
        have S0 := Lib.hid (show (wr.alloc (.cells #[.int .i64 (Tr.l xs k), .int .i64 (Tr.d xs k)] 71)).drew.cell? ⟨wr.heap.size, 1, none⟩ = some (.int .i64 (Tr.d xs k)) by simp)
        have Hx := Lib.hid ((((H1.out.below HB2.out).more HB2.out.size).to_below ((Below.refl _ wr).alloc (Nat.le_refl _) (.cells #[.int .i64 (Tr.l xs k), .int .i64 (Tr.d xs k)] 71))).drew)
        have HBx := Lib.hid ((HB2.out.alloc hsz (.cells #[.int .i64 (Tr.l xs k), .int .i64 (Tr.d xs k)] 71)).drew)
        have Hox := Lib.hid (show (wr.alloc (.cells #[.int .i64 (Tr.l xs k), .int .i64 (Tr.d xs k)] 71)).drew.ownsRow w1.heap.size 3 1 (.slice (some ⟨w1.heap.size, 0, none⟩) n n) n (ints (Zs.part F k)) from Ho.out.alloc _)
        have hxz : wr.heap.size < (wr.alloc (.cells #[.int .i64 (Tr.l xs k), .int .i64 (Tr.d xs k)] 71)).drew.heap.size := by simp [World.drew]
        have Hpl := Lib.hid (Zs.part_length F k (by rw [HFl.out]; exact hk))
        have Hs := Lib.hid hs
        clear hy hdd he hy0 hs
        go_wp2_with fail
        go_region_held3 (fun wq => wq.cell? ⟨wr.heap.size, 1, none⟩ = some (.int .i64 (Tr.d xs k))) (first | exact S0.out | exact (hb.cell hxz).trans S0.out | (refine (World.cell?_setCell_other _ _ _ _ hne).trans ?_; assumption)) (first | (go_at_call 101; refine (implEndOf_any _ _ _ xs _ _ Hx.out hn hnc).mono ?_; rintro e w' ⟨rfl, hb⟩; have hox3 := own_below Hox.out hb; have c3 := own_int hox3 (k := k) (by rw [Hpl.out, HFl.out]; exact hlt); have f3 := hox3.frozenAt k))
        have Ho3 := Lib.hid hox3
        have HB3 := Lib.hid (HBx.out.trans (hb.mono HBx.out.size))
        clear hox3 hb c3 f3
        go_wp2
        go_roundw
        case rel =>
          refine ⟨k + 1, by omega, by go_num, ?_, HB3.out.setCell (Nat.le_refl _) _⟩
          have := (Ho3.out.stored k (.int .i64 (Tr.endOf xs (k : Int) - 1 - Tr.d xs k))).1
          rw [ints_set, Hs.out, ← hfa, Zs.part_set F k (by rw [HFl.out]; exact hlt), hfa, ← Hs.out] at this
          exact this
        case measure => simp [intOf]; omega
      · obtain rfl : k = n := by omega
        go_wp2
        go_ret
        rw [show Zs.part F k = F by rw [← HFl.out]; exact Zs.part_all F] at Ho
        exact ⟨_, _, by rw [← HF.out, HFl.out]; rfl, by rw [← HF.out, HFl.out]; exact own_base Ho.out HB.out.size, HB.out.trans (HB2.out.mono HB.out.size)⟩

end Go.Proofs.Ytkccnlcghlkioaa

/- Contracts (PostI). -/
namespace Go.Proofs.Ytkccnlcghlkioaa
open Go.RowKit
set_option linter.unusedVariables false

/-- the nodes that are known when k ranks are done -/
def Tr.postTo (xs : Tr) (k : Nat) : List Nat := (Tr.post xs).map fun i => if i < k then i else 0
theorem Tr.postTo_length (xs : Tr) (k : Nat) : (Tr.postTo xs k).length = (Tr.post xs).length := by simp [Tr.postTo]
theorem Tr.postTo_zero (xs : Tr) : Tr.postTo xs 0 = List.replicate (Tr.post xs).length 0 := by
  unfold Tr.postTo
  refine List.ext_getElem (by simp) fun i h1 h2 => by simp
theorem Tr.post_mem {xs : Tr} {j : Nat} (hj : j < (Tr.post xs).length) : (Tr.post xs)[j] < (Tr.post xs).length := by
  obtain ⟨i, h1, h2, h3, h4, h5⟩ := Tr.post_at hj
  rw [List.getElem?_eq_getElem hj] at h2
  injection h2 with h2
  omega
theorem Tr.postTo_all (xs : Tr) : Tr.postTo xs (Tr.post xs).length = Tr.post xs := by
  unfold Tr.postTo
  refine List.ext_getElem (by simp) fun j h1 h2 => ?_
  rw [List.getElem_map, if_pos (Tr.post_mem h2)]
theorem Tr.postTo_set {xs : Tr} {k : Nat} (hk : k < (Tr.post xs).length) : (Tr.postTo xs k).set (Tr.rk xs k) k = Tr.postTo xs (k + 1) := by
  obtain ⟨hok, hl⟩ := Tr.post_ok hk
  have hp := Tr.post_rk hok (j := k) (by omega)
  unfold Tr.postTo
  refine List.ext_getElem (by simp) fun j h1 h2 => ?_
  simp only [List.length_map] at h2
  by_cases e : Tr.rk xs k = j
  · subst e
    rw [List.getElem?_eq_getElem h2] at hp
    injection hp with hp
    simp [hp]
  · rw [List.getElem_set_ne e]
    simp only [List.getElem_map]
    obtain ⟨i, h3, h4, h5, _⟩ := Tr.post_at h2
    rw [List.getElem?_eq_getElem h2] at h4
    injection h4 with h4
    have hne : (Tr.post xs)[j] ≠ k := fun q => e (by rw [← h5, ← h4, q])
    by_cases q : (Tr.post xs)[j] < k
    · rw [if_pos q, if_pos (by omega)]
    · rw [if_neg q, if_neg (by omega)]
theorem Tr.rks_get {xs : Tr} {k : Nat} (hk : k < (Tr.post xs).length) : Zs.at (Zs.up (Tr.rks xs)) k = (Tr.rk xs k : Nat) ∧ Tr.rk xs k < (Tr.post xs).length := by
  obtain ⟨hok, hl⟩ := Tr.post_ok hk
  exact ⟨Tr.rks_val hok (by omega), by rw [hl]; exact Tr.rk_lt hok (by omega)⟩
theorem Zs.up_set (l : List Nat) (k a : Nat) : (Zs.up l).set k (a : Int) = Zs.up (l.set k a) := by simp [Zs.up, List.map_set]
set_option maxHeartbeats 1600000 in
set_option maxRecDepth 100000 in
theorem implPostOrder_any (A : Option Addr) (n c : Nat) (xs : Tr) (w : World) (h : NdIn w w.heap.size A n xs) (hn : n ≤ 1048576) (hnc : n ≤ c) :
    Calls Try.prog 89 #[.slice A n c] w (OwnInts 3 (Zs.up (Tr.post xs)) w) := by
  have H := Lib.hid h
  clear h
  have hml := Tr.post_len_le xs
  rw [H.out.1] at hml
  obtain ⟨m, hm⟩ : ∃ m, m = (Tr.post xs).length := ⟨_, rfl⟩
  have HM := Lib.hid hm
  have HRL := Lib.hid (show (Zs.up (Tr.rks xs)).length = m by rw [Zs.up_length, Tr.rks_length, hm])
  have HS := Lib.hid (fun k (hk : k < m) => Tr.postTo_set (xs := xs) (k := k) (by rw [← hm]; exact hk))
  have HR := Lib.hid (fun k (hk : k < m) => Tr.rks_get (xs := xs) (k := k) (by rw [← hm]; exact hk))
  rw [← hm] at hml
  clear hm
  obtain ⟨i0, hi, hz0, hz1, hz2⟩ := info_parts info_intZ
  have Hi := Lib.hid hi
  clear hi
  go_enter Try.func89, Try.ntmps89
  go_wp2_with fail
  refine (implRankOf_any _ _ _ xs _ H.out hn hnc).mono ?_
  rintro e w1 ⟨A1, c1, rfl, ho, hb⟩
  have HB := Lib.hid hb
  have I1 := Lib.hid (IntIn.of_own ho)
  clear ho hb
  rw [HRL.out] at I1 ⊢
  have HZ0 := Lib.hid (show List.replicate m (0 : Int) = Zs.up (Tr.postTo xs 0) by rw [Tr.postTo_zero, ← HM.out]; simp [Zs.up])
  go_wp2_with (at_make; go_loud (refine wpList_make_full _ rfl _ _ 25 rfl w1.heap.size 3 i0 (.int .i64 0) 1 Try.underlying25 Hi.out hz0 hz1 _ _ _ _ m rfl rfl rfl rfl (by rw [hz2]; omega) (by unfold maxLen; omega) (Nat.le_refl _) ?_); intro w2 hown2 hgrow2)
  have hb2 : Below w1.heap.size w1 w2 := (Below.refl _ w1).grown hgrow2 (Nat.le_refl _) (fun _ h => by cases h)
  rw [made_zeros 0 m, HZ0.out] at hown2
  have HO2 := Lib.hid hown2
  have HB2 := Lib.hid hb2
  clear hown2 hgrow2 hb2
  go_wp2
  go_loopw [14] (fun kv wr => ∃ k : Nat, k ≤ m ∧ kv = .int .i64 k ∧ wr.ownsRow w1.heap.size 3 1 (.slice (some ⟨w1.heap.size, 0, none⟩) m m) m (ints (Zs.up (Tr.postTo xs k))) ∧ Below w1.heap.size w1 wr) (fun k _ => m - (intOf k).toNat)
  case atStart => exact ⟨0, Nat.zero_le _, rfl, HO2.out, HB2.out⟩
  case round =>
    clear HO2 HB2
    obtain ⟨k, hk, rfl, hown, hB⟩ := hrel
    have Ho := Lib.hid hown
    have HB2 := Lib.hid hB
    clear hown hB
    by_cases hlt : k < m
    · obtain ⟨hr1, hr2⟩ := HR.out k hlt
      have hset := HS.out k hlt
      rw [← HM.out] at hr2
      obtain ⟨ad, rfl, _, c1⟩ := (I1.out.below HB2.out).at_ hlt
      rw [hr1] at c1
      obtain ⟨p, hp⟩ : ∃ p, p = Tr.rk xs k := ⟨_, rfl⟩
      rw [← hp] at hr2 c1 hset
      have c0 := own_int Ho.out (k := p) (by rw [Zs.up_length, Tr.postTo_length, ← HM.out]; exact hr2)
      have f0 := Ho.out.frozenAt p
      have b0 : (0 : Int) ≤ (p : Int) := by omega
      have b1 : (p : Int) < (m : Int) := by omega
      have b2 : (0 : Int) ≤ (k : Int) := by omega
      have b3 : (k : Int) < (m : Int) := by omega
      have Hset := Lib.hid hset
      clear hset hr1 hr2 hp
      go_wp2
      go_roundw
      case rel =>
        refine ⟨k + 1, by omega, by go_num, ?_, HB2.out.setCell (Nat.le_refl _) _⟩
        have := (Ho.out.stored p (.int .i64 (k : Int))).1
        rw [ints_set, Zs.up_set, Hset.out] at this
        exact this
      case measure => simp [intOf]; omega
    · obtain rfl : k = m := by omega
      have Hf := Lib.hid (show Tr.postTo xs k = Tr.post xs by rw [HM.out]; exact Tr.postTo_all xs)
      rw [Hf.out] at Ho
      go_wp2
      go_ret
      exact ⟨_, _, by rw [Zs.up_length, ← HM.out]; rfl, by rw [Zs.up_length, ← HM.out]; exact own_base Ho.out HB.out.size, HB.out.trans (HB2.out.mono HB.out.size)⟩

end Go.Proofs.Ytkccnlcghlkioaa

/- Contracts (LeafI). -/
namespace Go.Proofs.Ytkccnlcghlkioaa
open Go.RowKit
set_option linter.unusedVariables false

theorem Tr.lfs_get {xs : Tr} {k : Nat} (hk : k < (Tr.post xs).length) : ∃ i, i < xs.length ∧ Zs.at (Zs.up (Tr.post xs)) k = (i : Int) ∧ Zs.at (Zs.up (Tr.lfs xs)) k = (i : Int) - Tr.d xs i ∧ 0 ≤ Tr.d xs i ∧ Tr.d xs i ≤ 12 := by
  obtain ⟨i, h1, h2, h3, hok, hl⟩ := Tr.post_at hk
  have hi : i < xs.length := by omega
  rw [List.getElem?_eq_getElem hk] at h2
  injection h2 with h2
  have hd := Tr.dn_eq hok hi
  have hd2 := Tr.dn_le hok hi
  refine ⟨i, hi, by rw [Zs.up_at _ _ hk, h2], ?_, (Tr.ok_at hok hi).2.1⟩
  rw [Zs.up_at _ _ (by rw [Tr.lfs_length]; exact hk)]
  simp only [Tr.lfs, List.getElem_map, h2]
  omega
set_option maxHeartbeats 1600000 in
set_option maxRecDepth 100000 in
theorem implLeftLeaf_any (A : Option Addr) (n c : Nat) (xs : Tr) (w : World) (h : NdIn w w.heap.size A n xs) (hn : n ≤ 1048576) (hnc : n ≤ c) :
    Calls Try.prog 78 #[.slice A n c] w (OwnInts 3 (Zs.up (Tr.lfs xs)) w) := by
  have H := Lib.hid h
  clear h
  have HL := Lib.hid H.out.1
  have hml := Tr.post_len_le xs
  rw [H.out.1] at hml
  obtain ⟨m, hm⟩ : ∃ m, m = (Tr.post xs).length := ⟨_, rfl⟩
  have HM := Lib.hid hm
  have HRL := Lib.hid (show (Zs.up (Tr.post xs)).length = m by rw [Zs.up_length, hm])
  have HR := Lib.hid (fun k (hk : k < m) => Tr.lfs_get (xs := xs) (k := k) (by rw [← hm]; exact hk))
  obtain ⟨F, hF⟩ : ∃ F, F = Zs.up (Tr.lfs xs) := ⟨_, rfl⟩
  have HFl := Lib.hid (show F.length = m by rw [hF, Zs.up_length, Tr.lfs_length, hm])
  have HF := Lib.hid hF
  rw [← hm] at hml
  clear hm hF
  obtain ⟨i0, hi, hz0, hz1, hz2⟩ := info_parts info_intZ
  have Hi := Lib.hid hi
  clear hi
  go_enter Try.func78, Try.ntmps78
  go_wp2_with fail
  refine (implPostOrder_any _ _ _ xs _ H.out hn hnc).mono ?_
  rintro e w1 ⟨A1, c1, rfl, ho, hb⟩
  have HB := Lib.hid hb
  have I1 := Lib.hid (IntIn.of_own ho)
  have H1 := Lib.hid (H.out.to_below hb)
  clear ho hb
  rw [HRL.out] at I1 ⊢
  have HZ0 := Lib.hid (show List.replicate m (0 : Int) = Zs.part F 0 by rw [Zs.part_zero, HFl.out])
  go_wp2_with (at_make; go_loud (refine wpList_make_full _ rfl _ _ 25 rfl w1.heap.size 3 i0 (.int .i64 0) 1 Try.underlying25 Hi.out hz0 hz1 _ _ _ _ m rfl rfl rfl rfl (by rw [hz2]; omega) (by unfold maxLen; omega) (Nat.le_refl _) ?_); intro w2 hown2 hgrow2)
  have hb2 : Below w1.heap.size w1 w2 := (Below.refl _ w1).grown hgrow2 (Nat.le_refl _) (fun _ h => by cases h)
  rw [made_zeros 0 m, HZ0.out] at hown2
  have HO2 := Lib.hid hown2
  have HB2 := Lib.hid hb2
  clear hown2 hgrow2 hb2
  go_wp2
  go_loopw [14] (fun kv wr => ∃ k : Nat, k ≤ m ∧ kv = .int .i64 k ∧ wr.ownsRow w1.heap.size 3 1 (.slice (some ⟨w1.heap.size, 0, none⟩) m m) m (ints (Zs.part F k)) ∧ Below w1.heap.size w1 wr) (fun k _ => m - (intOf k).toNat)
  case atStart => exact ⟨0, Nat.zero_le _, rfl, HO2.out, HB2.out⟩
  case round =>
    clear HO2 HB2
    obtain ⟨k, hk, rfl, hown, hB⟩ := hrel
    have Ho := Lib.hid hown
    have HB2 := Lib.hid hB
    clear hown hB
    by_cases hlt : k < m
    · obtain ⟨i, r1, r2, r3, r4, r5⟩ := HR.out k hlt
      rw [← HF.out] at r3
      rw [HL.out] at r1
      obtain ⟨ad, rfl, _, c1⟩ := (I1.out.below HB2.out).at_ hlt
      rw [r2] at c1
      obtain ⟨ad2, rfl, _, l1, d1⟩ := (H1.out.below HB2.out).at_ r1
      have c0 := own_int Ho.out (k := k) (by rw [Zs.part_length F k (by rw [HFl.out]; exact hk), HFl.out]; exact hlt)
      have f0 := Ho.out.frozenAt k
      have b0 : (0 : Int) ≤ (i : Int) := by omega
      have b1 : (i : Int) < (n : Int) := by omega
      have b2 : (0 : Int) ≤ (k : Int) := by omega
      have b3 : (k : Int) < (m : Int) := by omega
      have a1 : IntKind.i64.wrap ((i : Int) - Tr.d xs i) = (i : Int) - Tr.d xs i := Kit.w64 (by omega) (by omega)
      have R3 := Lib.hid r3
      clear r2 r3 r4 r5 l1
      go_wp2
      go_roundw
      case rel =>
        refine ⟨k + 1, by omega, by go_num, ?_, HB2.out.setCell (Nat.le_refl _) _⟩
        have := (Ho.out.stored k (.int .i64 ((i : Int) - Tr.d xs i))).1
        rw [ints_set, ← R3.out, Zs.part_set F k (by rw [HFl.out]; exact hlt), R3.out] at this
        exact this
      case measure => simp [intOf]; omega
    · obtain rfl : k = m := by omega
      have Hf := Lib.hid (show Zs.part F k = F by rw [← HFl.out]; exact Zs.part_all F)
      rw [Hf.out] at Ho
      go_wp2
      go_ret
      exact ⟨_, _, by rw [← HF.out, HFl.out]; rfl, by rw [← HF.out, HFl.out]; exact own_base Ho.out HB.out.size, HB.out.trans (HB2.out.mono HB.out.size)⟩

end Go.Proofs.Ytkccnlcghlkioaa

/- Contracts (SlI). -/
namespace Go.Proofs.Ytkccnlcghlkioaa
open Go.RowKit
set_option linter.unusedVariables false

set_option maxHeartbeats 1600000 in
set_option maxRecDepth 100000 in
theorem slIndex_any (A : Option Addr) (n c : Nat) (zs : List Int) (i : Int) (w : World) (h : IntIn w w.heap.size A n zs) (hn : n ≤ 1048576) :
    Calls Try.prog 99 #[.slice A n c, .int .i64 i] w fun e w' => e = .returned (.int .i64 (Zs.find zs i 0)) ∧ w = w' := by
  have H := Lib.hid h
  have HL := Lib.hid h.1
  clear h
  have HFS := Lib.hid (fun k => Zs.find_step zs i k)
  go_enter Try.func99, Try.ntmps99
  go_wp2
  go_loop [8] (fun kv => ∃ k : Nat, k ≤ n ∧ kv = .int .i64 k ∧ Zs.find zs i 0 = Zs.find (zs.drop k) i k) (fun k => n - (intOf k).toNat)
  case atStart => exact ⟨0, Nat.zero_le _, rfl, rfl⟩
  case round =>
    obtain ⟨k, hk, rfl, hfi⟩ := hrel
    have HI := Lib.hid hfi
    clear hfi
    by_cases hlt : k < n
    · have hfs := HFS.out k (by rw [HL.out]; exact hlt)
      obtain ⟨ad, rfl, _, c1⟩ := H.out.at_ hlt
      have hz : Zs.at zs k = zs.getD k 0 := rfl
      rw [hz] at c1
      obtain ⟨x, hx⟩ : ∃ x, x = zs.getD k 0 := ⟨_, rfl⟩
      rw [← hx] at c1 hfs
      clear hx hz
      have k0 : (0 : Int) ≤ (k : Int) := by omega
      have k1 : (k : Int) < (n : Int) := by omega
      by_cases hq : x = i
      · have q : (i == x) = true := by simpa using hq.symm
        rw [if_pos hq] at hfs
        have Hs := Lib.hid (HI.out.trans hfs)
        clear hq hfs
        go_wp2
        go_ret
        exact ⟨by rw [Hs.out]; rfl, rfl⟩
      · have q : (i == x) = false := by simpa using fun e => hq e.symm
        rw [if_neg hq] at hfs
        have Hs := Lib.hid (HI.out.trans hfs)
        clear hq hfs
        go_wp2
        go_round
        case rel => exact ⟨k + 1, by omega, by go_num, Hs.out⟩
        case measure => simp [intOf]; omega
    · obtain rfl : k = n := by omega
      have Hs := Lib.hid (show Zs.find zs i 0 = -1 by rw [HI.out, List.drop_eq_nil_of_le (by rw [HL.out]; exact Nat.le_refl _)]; rfl)
      go_wp2
      go_ret
      exact ⟨by rw [Hs.out]; rfl, rfl⟩

end Go.Proofs.Ytkccnlcghlkioaa

/- Contracts (SlC). -/
namespace Go.Proofs.Ytkccnlcghlkioaa
open Go.RowKit
set_option linter.unusedVariables false

theorem Zs.find_ge (zs : List Int) (i : Int) (k : Nat) : Zs.find zs i k = -1 ∨ (k : Int) ≤ Zs.find zs i k := by
  induction zs generalizing k with
  | nil => exact .inl rfl
  | cons z zs ih =>
    unfold Zs.find
    by_cases h : z = i
    · rw [if_pos h]; exact .inr (Int.le_refl _)
    · rw [if_neg h]
      rcases ih (k + 1) with h | h
      · exact .inl h
      · exact .inr (by omega)
theorem Zs.find_mem (zs : List Int) (i : Int) (k : Nat) : 0 ≤ Zs.find zs i k ↔ i ∈ zs := by
  induction zs generalizing k with
  | nil => simp [Zs.find]
  | cons z zs ih =>
    unfold Zs.find
    by_cases h : z = i
    · rw [if_pos h]; subst h; simp
    · rw [if_neg h, ih (k + 1)]
      simp [show ¬ i = z from fun e => h e.symm]
set_option maxHeartbeats 1600000 in
set_option maxRecDepth 100000 in
theorem slContains_any (A : Option Addr) (n c : Nat) (zs : List Int) (i : Int) (w : World) (h : IntIn w w.heap.size A n zs) (hn : n ≤ 1048576) :
    Calls Try.prog 96 #[.slice A n c, .int .i64 i] w fun e w' => e = .returned (.bool (decide (i ∈ zs))) ∧ w = w' := by
  have H := Lib.hid h
  clear h
  have hm := Zs.find_mem zs i 0
  obtain ⟨z, hz⟩ : ∃ z, z = Zs.find zs i 0 := ⟨_, rfl⟩
  have HZ := Lib.hid hz
  rw [← hz] at hm
  have HM := Lib.hid (show decide (0 ≤ z) = decide (i ∈ zs) by rw [Bool.eq_iff_iff]; simp [hm])
  clear hm hz
  go_enter Try.func96, Try.ntmps96
  go_wp2_with fail
  refine (slIndex_any _ _ _ zs _ _ H.out hn).mono ?_
  rintro e w1 ⟨rfl, rfl⟩
  rw [← HZ.out]
  go_wp2
  go_ret
  exact ⟨by rw [← HM.out]; rfl, rfl⟩

end Go.Proofs.Ytkccnlcghlkioaa

/- Contracts (KeyI). -/
namespace Go.Proofs.Ytkccnlcghlkioaa
open Go.RowKit
set_option linter.unusedVariables false

theorem IntIn.cut {w : World} {B n : Nat} {ad : Addr} {zs : List Int} (h : IntIn w B (some ad) n zs) {j m : Nat} (hjm : j + m = n) : IntIn w B (some (ad.add j)) m (zs.drop j) := by
  refine ⟨by have := h.1; simp; omega, fun hm => ⟨_, rfl, ?_⟩, fun ad' e k hk => ?_⟩
  · rw [block_of_add]
    obtain ⟨ad', e, hb⟩ := h.2.1 (by omega)
    obtain rfl : ad = ad' := by injection e
    exact hb
  · obtain rfl : ad.add j = ad' := by injection e
    have hc := h.2.2 ad rfl (j + k) (by omega)
    rw [add_of_add]
    simpa [Zs.at, List.getD_eq_getElem?_getD] using hc
theorem IntIn.none {w : World} {B : Nat} {A : Option Addr} : IntIn w B A 0 [] := ⟨rfl, fun h => absurd h (Nat.lt_irrefl 0), fun ad _ k hk => absurd hk (Nat.not_lt_zero k)⟩
theorem Zs.last_in (F : List Nat) (k : Nat) (hk : k < F.length) : Zs.lastTo F k F.length = !decide (Zs.at (Zs.up F) k ∈ (Zs.up F).drop (k + 1)) := by
  rw [Bool.eq_iff_iff]
  simp only [Zs.lastTo, List.all_eq_true, List.mem_range, Bool.or_eq_true, decide_eq_true_eq, Bool.not_eq_true', decide_eq_false_iff_not]
  rw [Zs.up_at F k hk]
  have hgk : F.getD k 0 = F[k] := by simp [List.getD_eq_getElem?_getD, hk]
  constructor
  · intro h hm
    obtain ⟨j, hj, e⟩ := List.getElem_of_mem hm
    simp [Zs.up] at hj e
    have := h (k + 1 + j) (by omega)
    rw [hgk] at this
    simp [List.getD_eq_getElem?_getD, show k + 1 + j < F.length by omega] at this
    omega
  · intro h j hj
    by_cases q : j ≤ k
    · exact .inl q
    · refine .inr fun e => h ?_
      rw [hgk] at e
      have e2 : F.getD j 0 = F[j] := by simp [List.getD_eq_getElem?_getD, hj]
      rw [List.mem_iff_getElem]
      exact ⟨j - (k + 1), by simp [Zs.up]; omega, by simp [Zs.up, show k + 1 + (j - (k + 1)) = j by omega]; omega⟩
set_option maxHeartbeats 1600000 in
set_option maxRecDepth 100000 in
theorem implKeyRoots_any (A : Option Addr) (n c : Nat) (xs : Tr) (w : World) (h : NdIn w w.heap.size A n xs) (hn : n ≤ 1048576) (hnc : n ≤ c) :
    Calls Try.prog 79 #[.slice A n c] w (OwnInts 3 (Zs.up (Tr.krs xs)) w) := by
  have H := Lib.hid h
  clear h
  have hml := Tr.post_len_le xs
  rw [H.out.1, ← Tr.lfs_length] at hml
  obtain ⟨G, hG⟩ : ∃ G, G = Tr.lfs xs := ⟨_, rfl⟩
  have HS := Lib.hid (fun k => Tr.krTo_succ xs k)
  have HLe := Lib.hid (fun k => Tr.krTo_le xs k)
  have HK := Lib.hid (show Tr.krs xs = Tr.krTo xs G.length by rw [hG]; rfl)
  rw [← hG] at hml HS
  have HIN := Lib.hid (fun k hk => Zs.last_in G k hk)
  obtain ⟨m, hm⟩ : ∃ m, m = G.length := ⟨_, rfl⟩
  obtain ⟨F, hF⟩ : ∃ F, F = Zs.up G := ⟨_, rfl⟩
  have HFl := Lib.hid (show F.length = m by rw [hF, Zs.up_length, hm])
  have HF := Lib.hid (show Zs.up (Tr.lfs xs) = F by rw [hF, hG])
  rw [← hm] at hml HS HK HIN
  rw [← hF] at HIN
  clear hm hF hG
  obtain ⟨i0, hi, hz0, hz1, hz2⟩ := info_parts info_intZ
  have Hi := Lib.hid hi
  clear hi
  go_enter Try.func79, Try.ntmps79
  go_wp2_with fail
  refine (implLeftLeaf_any _ _ _ xs _ H.out hn hnc).mono ?_
  rintro e w1 ⟨A1, c1, rfl, ho, hb⟩
  have HB := Lib.hid hb
  rw [HF.out, HFl.out] at ho ⊢
  have I1 := Lib.hid (IntIn.of_own ho)
  have hmc := own_cap ho
  clear ho hb
  go_wp2
  go_loopw [11, 4] (fun kv ov wr => ∃ k : Nat, k ≤ m ∧ kv = .int .i64 k ∧ wr.ownsRow w1.heap.size 3 1 ov (Zs.up (Tr.krTo xs k)).length (ints (Zs.up (Tr.krTo xs k))) ∧ Below w1.heap.size w1 wr) (fun k _ _ => m - (intOf k).toNat)
  case atStart => exact ⟨0, Nat.zero_le _, rfl, own_nil, Below.refl _ _⟩
  case round =>
    obtain ⟨k, hk, rfl, hown, hB⟩ := hrel
    have Ho := Lib.hid hown
    have HB2 := Lib.hid hB
    clear hown hB
    have hsx := HB2.out.size
    by_cases hlt : k < m
    · have hin := HIN.out k hlt
      have hs := HS.out k
      rw [hin] at hs
      have hle := HLe.out k
      obtain ⟨ad, rfl, _, c0⟩ := (I1.out.below HB2.out).at_ hlt
      obtain ⟨x, hx⟩ : ∃ x, x = Zs.at F k := ⟨_, rfl⟩
      rw [← hx] at hs c0
      have b2 : (0 : Int) ≤ (k : Int) := by omega
      have b3 : (k : Int) < (m : Int) := by omega
      have b4 : (k : Int) + 1 ≤ (m : Int) := by omega
      have b5 : (m : Int) ≤ (c1 : Int) := by omega
      have b6 : (0 : Int) ≤ (k : Int) + 1 := by omega
      have b7 : ((k : Int) + 1).toNat = k + 1 := by omega
      have a1 : IntKind.i64.wrap ((k : Int) + 1) = (k : Int) + 1 := Kit.w64 (by omega) (by omega)
      have IC := Lib.hid (((I1.out.to_below HB2.out)).cut (j := k + 1) (m := m - (k + 1)) (by omega))
      have hmk : m - (k + 1) ≤ 1048576 := by omega
      clear hin hx
      cases hd : decide (x ∈ F.drop (k + 1)) with
      | true =>
        rw [hd] at hs
        have Hs := Lib.hid (hs.trans (if_neg (by decide)))
        have Hd := Lib.hid hd
        clear hs hd
        by_cases hc : c1 = k + 1
        · have I0 := Lib.hid (show IntIn wr wr.heap.size (some ad) 0 (F.drop (k + 1)) by
            rw [List.drop_eq_nil_of_le (by rw [HFl.out]; omega)]; exact IntIn.none)
          have hc2 : k + 1 = c1 := hc.symm
          clear hc hmk
          go_wp2_with fail
          refine (slContains_any _ _ _ (F.drop (k + 1)) x _ I0.out (Nat.zero_le _)).mono ?_
          rintro e w3 ⟨rfl, rfl⟩
          rw [Hd.out]
          go_wp2
          go_roundw
          case rel => exact ⟨k + 1, by omega, by go_num, by rw [Hs.out]; exact Ho.out, HB2.out⟩
          case measure => simp [intOf]; omega
        · go_wp2_with fail
          refine (slContains_any _ _ _ (F.drop (k + 1)) x _ IC.out hmk).mono ?_
          rintro e w3 ⟨rfl, rfl⟩
          rw [Hd.out]
          go_wp2
          go_roundw
          case rel => exact ⟨k + 1, by omega, by go_num, by rw [Hs.out]; exact Ho.out, HB2.out⟩
          case measure => simp [intOf]; omega
      | false =>
        rw [hd] at hs
        have Hs := Lib.hid (hs.trans (if_pos rfl))
        have Hd := Lib.hid hd
        clear hs hd
        by_cases hc : c1 = k + 1
        · have I0 := Lib.hid (show IntIn wr wr.heap.size (some ad) 0 (F.drop (k + 1)) by
            rw [List.drop_eq_nil_of_le (by rw [HFl.out]; omega)]; exact IntIn.none)
          have hc2 : k + 1 = c1 := hc.symm
          clear hc hmk
          go_wp2_with fail
          refine (slContains_any _ _ _ (F.drop (k + 1)) x _ I0.out (Nat.zero_le _)).mono ?_
          rintro e w3 ⟨rfl, rfl⟩
          rw [Hd.out]
          go_wp2_with (at_builtin; go_loud (refine append_int wr rfl _ _ 25 rfl w1.heap.size 3 i0 Try.underlying25 Hi.out hz0 hz1 hz2 u4 (Zs.up (Tr.krTo xs k)).length (Zs.up (Tr.krTo xs k)) rfl Ho.out rfl (k : Int) rfl (by rw [Zs.up_length]; omega) hsx ?_); intro v' w3 hown hgrow)
          have hb3 := Kit.below_own HB2.out Ho.out hgrow
          rw [show Zs.up (Tr.krTo xs k) ++ [(k : Int)] = Zs.up (Tr.krTo xs (k + 1)) by rw [Hs.out, Zs.up_append]; rfl] at hown
          go_roundw
          case rel => exact ⟨k + 1, by omega, by go_num, hown, hb3⟩
          case measure => simp [intOf]; omega
        · go_wp2_with fail
          refine (slContains_any _ _ _ (F.drop (k + 1)) x _ IC.out hmk).mono ?_
          rintro e w3 ⟨rfl, rfl⟩
          rw [Hd.out]
          go_wp2_with (at_builtin; go_loud (refine append_int wr rfl _ _ 25 rfl w1.heap.size 3 i0 Try.underlying25 Hi.out hz0 hz1 hz2 u4 (Zs.up (Tr.krTo xs k)).length (Zs.up (Tr.krTo xs k)) rfl Ho.out rfl (k : Int) rfl (by rw [Zs.up_length]; omega) hsx ?_); intro v' w3 hown hgrow)
          have hb3 := Kit.below_own HB2.out Ho.out hgrow
          rw [show Zs.up (Tr.krTo xs k) ++ [(k : Int)] = Zs.up (Tr.krTo xs (k + 1)) by rw [Hs.out, Zs.up_append]; rfl] at hown
          go_roundw
          case rel => exact ⟨k + 1, by omega, by go_num, hown, hb3⟩
          case measure => simp [intOf]; omega
    · obtain rfl : k = m := by omega
      go_wp2
      obtain ⟨A2, c2, rfl⟩ := own_slice Ho.out
      go_ret
      exact ⟨A2, c2, by rw [HK.out]; rfl, by rw [HK.out]; exact own_base Ho.out HB.out.size, HB.out.trans (HB2.out.mono HB.out.size)⟩

end Go.Proofs.Ytkccnlcghlkioaa

/- Contracts (CelI). -/
namespace Go.Proofs.Ytkccnlcghlkioaa
open Go.RowKit
set_option linter.unusedVariables false

set_option maxHeartbeats 1600000 in
set_option maxRecDepth 100000 in
theorem keySizes_any (A : Option Addr) (n c : Nat) (xs : Tr) (w : World) (h : NdIn w w.heap.size A n xs) (hn : n ≤ 1048576) (hnc : n ≤ c) :
    Calls Try.prog 54 #[.slice A n c] w fun e w' => e = .returned (.int .i64 (Tr.keySz xs)) ∧ Below w.heap.size w w' := by
  cases hok : Tr.ok xs with
  | false =>
    have Hf := Lib.hid (Tr.keySz_no hok)
    have Hk := Lib.hid (show (Zs.up (Tr.krs xs)).length = 0 by rw [Tr.krs_no hok]; rfl)
    have H := Lib.hid h
    clear h hok
    go_enter Try.func54, Try.ntmps54
    go_wp2_with fail
    refine (implLeftLeaf_any _ _ _ xs _ H.out hn hnc).mono ?_
    rintro e w1 ⟨A1, c1, rfl, o1, b1⟩
    have H1 := Lib.hid (H.out.to_below b1)
    have B1 := Lib.hid b1
    clear o1 b1
    go_wp2_with fail
    refine (implKeyRoots_any _ _ _ xs _ H1.out hn hnc).mono ?_
    rintro e w2 ⟨A2, c2, rfl, o2, b2⟩
    have B2 := Lib.hid (B1.out.trans (b2.mono B1.out.size))
    rw [Hk.out]
    clear o2 b2
    go_wp2
    go_loopw [12, 4] (fun kv sv wr => kv = .int .i64 0 ∧ sv = .int .i64 0 ∧ wr = w2) (fun _ _ _ => 0)
    case atStart => exact ⟨rfl, rfl, rfl⟩
    case round =>
      obtain ⟨rfl, rfl, rfl⟩ := hrel
      go_wp2
      go_ret
      exact ⟨Kit.ret_int Hf.out.symm, B2.out⟩
  | true =>
    have HOK := Lib.hid hok
    have hln := h.1
    obtain ⟨x1, x24⟩ := Tr.len24 hok
    have hkl := Tr.krs_le hok
    have HBd := Lib.hid (fun j => Tr.keyTo_bound hok j)
    have HL := Lib.hid (show (Zs.up (Tr.lfs xs)).length = xs.length by rw [Zs.up_length, Tr.lfs_len hok])
    have HK := Lib.hid (Zs.up_length (Tr.krs xs))
    have H := Lib.hid h
    clear h hok
    go_enter Try.func54, Try.ntmps54
    go_wp2_with fail
    refine (implLeftLeaf_any _ _ _ xs _ H.out hn hnc).mono ?_
    rintro e w1 ⟨A1, c1, rfl, o1, b1⟩
    have H1 := Lib.hid (H.out.to_below b1)
    have I1 := Lib.hid (IntIn.of_own o1)
    have B1 := Lib.hid b1
    clear o1 b1
    rw [HL.out] at I1 ⊢
    go_wp2_with fail
    refine (implKeyRoots_any _ _ _ xs _ H1.out hn hnc).mono ?_
    rintro e w2 ⟨A2, c2, rfl, o2, b2⟩
    have I2 := Lib.hid (IntIn.of_own o2)
    have I1 := Lib.hid (I1.out.to_below b2)
    have B2 := Lib.hid (B1.out.trans (b2.mono B1.out.size))
    rw [HK.out] at I2 ⊢
    clear o2 b2
    go_wp2
    go_loopw [12, 4] (fun kv sv wr => ∃ k : Nat, k ≤ (Tr.krs xs).length ∧ kv = .int .i64 k ∧ sv = .int .i64 (Tr.keyTo xs k) ∧ Drawn w2 wr) (fun k _ _ => (Tr.krs xs).length - (intOf k).toNat)
    case atStart => exact ⟨0, Nat.zero_le _, rfl, rfl, Drawn.refl _⟩
    case round =>
      obtain ⟨k, hk, rfl, rfl, hD⟩ := hrel
      have HD := Lib.hid hD
      clear hD
      by_cases hlt : k < (Tr.krs xs).length
      · obtain ⟨ad2, rfl, _, r1⟩ := (I2.out.drawn HD.out).at_ hlt
        rw [Tr.kr_up hlt] at r1
        have hil := Tr.krs_lt HOK.out (Tr.kr_mem hlt)
        obtain ⟨ad1, rfl, _, r2⟩ := (I1.out.drawn HD.out).at_ hil
        rw [Tr.la_up HOK.out hil] at r2
        have bz := Tr.kz_bound HOK.out hlt
        have bt := HBd.out k hk
        obtain ⟨i, hi⟩ : ∃ i, i = Tr.kr xs k := ⟨_, rfl⟩
        obtain ⟨q, hq⟩ : ∃ q, q = Tr.la xs i := ⟨_, rfl⟩
        have hqi : q ≤ i := by rw [hq]; exact (Tr.la_nest HOK.out i (by rw [hi]; exact hil)).1
        rw [← hi] at r1 r2 hil
        rw [← hq] at r2
        have Hz := Lib.hid (show Tr.keyTo xs (k + 1) = Tr.keyTo xs k + ((i : Int) - (q : Int) + 1) by simp only [Tr.keyTo, Tr.kz]; rw [← hi, ← hq])
        have k1 : (0 : Int) ≤ (k : Int) := by omega
        have k2 : (k : Int) < ((Tr.krs xs).length : Int) := by omega
        have k3 : (0 : Int) ≤ (i : Int) := by omega
        have k4 : (i : Int) < (xs.length : Int) := by omega
        obtain ⟨s, hs⟩ : ∃ s, s = Tr.keyTo xs k := ⟨_, rfl⟩
        rw [← hs] at bt
        have HS := Lib.hid hs
        clear hi hq bz
        rw [← hs]
        clear hs
        go_wp2
        go_roundw
        case rel => exact ⟨k + 1, by omega, by go_num, by rw [Hz.out, HS.out], HD.out⟩
        case measure => simp [intOf]; omega
      · have hke : k = (Tr.krs xs).length := by omega
        have Hv := Lib.hid (show Tr.keySz xs = Tr.keyTo xs k by rw [hke]; rfl)
        clear hke
        go_wp2
        go_ret
        exact ⟨Kit.ret_int Hv.out.symm, Drawn.below B2.out HD.out⟩
set_option maxHeartbeats 1600000 in
set_option maxRecDepth 100000 in
theorem implCellsIn_any (A A' : Option Addr) (n n' c c' : Nat) (xs ys : Tr) (w : World) (h : NdIn w w.heap.size A n xs) (h' : NdIn w w.heap.size A' n' ys) (hn : n ≤ 1048576) (hn' : n' ≤ 1048576) (hc : n ≤ c) (hc' : n' ≤ c') :
    Calls Try.prog 24 #[.slice A n c, .slice A' n' c'] w fun e w' => e = .returned (.int .i64 (Tr.cells8 xs ys)) ∧ Below w.heap.size w w' := by
  have H := Lib.hid h
  have H' := Lib.hid h'
  have b1 := Tr.keySz_bound xs
  have b2 := Tr.keySz_bound ys
  have hm : 0 ≤ Tr.keySz xs * Tr.keySz ys ∧ Tr.keySz xs * Tr.keySz ys ≤ 576 * 576 := ⟨Int.mul_nonneg b1.1 b2.1, Int.mul_le_mul b1.2 b2.2 b2.1 (by omega)⟩
  have a1 : IntKind.i64.wrap (Tr.keySz xs * Tr.keySz ys) = Tr.keySz xs * Tr.keySz ys := Kit.w64 (by omega) (by omega)
  clear h h'
  go_enter Try.func24, Try.ntmps24
  go_wp2_with fail
  refine (keySizes_any _ _ _ xs _ H.out hn hc).mono ?_
  rintro e w1 ⟨rfl, b1⟩
  have H1 := Lib.hid (H'.out.to_below b1)
  have B1 := Lib.hid b1
  clear b1
  go_wp2_with fail
  refine (keySizes_any _ _ _ ys _ H1.out hn' hc').mono ?_
  rintro e w2 ⟨rfl, b2⟩
  have B2 := Lib.hid (B1.out.trans (b2.mono B1.out.size))
  clear b2
  go_wp2
  go_ret
  exact ⟨rfl, B2.out⟩

end Go.Proofs.Ytkccnlcghlkioaa

/- Contracts (HgtS). -/
namespace Go.Proofs.Ytkccnlcghlkioaa
open Go.RowKit
set_option linter.unusedVariables false

set_option maxHeartbeats 800000 in
set_option maxRecDepth 100000 in
theorem specHeightOf_any (A : Option Addr) (n c : Nat) (xs : Tr) (w : World) (h : NdIn w w.heap.size A n xs) (hn : n ≤ 1048576) :
    Calls Try.prog 25 #[.slice A n c] w fun e w' => e = .returned (.int .i64 (Tr.heightOf xs)) ∧ Drawn w w' := by
  have H := Lib.hid h
  clear h
  have HL := Lib.hid H.out.1
  rcases hok : Tr.ok xs with _ | _
  · have Hf := Lib.hid (show Tr.heightOf xs = 0 by simp [Tr.heightOf, hok])
    have Hok := Lib.hid hok
    clear hok
    go_enter Try.func25, Try.ntmps25
    go_wp2
    refine wp_loop_rounds 1 ?_
    rw [rounds_succ]
    by_cases h0 : 0 < n
    · go_wp2_with fail
      refine (specTreeOk_any _ _ _ xs _ H.out hn).mono ?_
      rintro e w1 ⟨rfl, hd⟩
      rw [Hok.out]
      go_wp2
      go_ret
      exact ⟨Kit.ret_int Hf.out.symm, hd⟩
    · obtain rfl : n = 0 := by omega
      go_wp2
      go_ret
      exact ⟨Kit.ret_int Hf.out.symm, Drawn.refl _⟩
  · have Hf := Lib.hid (show Tr.heightOf xs = Tr.heightTo xs xs.length by simp [Tr.heightOf, hok])
    have hbd := Lib.hid fun k => Tr.ok_at (xs := xs) hok (k := k)
    have Hok := Lib.hid hok
    clear hok
    go_enter Try.func25, Try.ntmps25
    go_wp2
    go_loopw [4, 3] (fun kv nv wr => ∃ k : Nat, k ≤ n ∧ kv = .int .i64 k ∧ nv = .int .i64 (Tr.heightTo xs k) ∧ Drawn w wr) (fun k _ _ => n - (intOf k).toNat)
    case atStart => exact ⟨0, by omega, rfl, rfl, Drawn.refl _⟩
    case round =>
      obtain ⟨k, hk, rfl, rfl, hD⟩ := hrel
      have hk0 : (0 : Int) ≤ (k : Int) := by omega
      by_cases hlt : k < n
      · obtain ⟨ad, rfl, hb, hl, hd⟩ := (H.out.drawn hD).at_ hlt
        have hdb := (hbd.out k (by rw [HL.out]; exact hlt)).2.1
        have hz := Lib.hid (H.out.drawn hD)
        go_wp2_with fail
        refine (specTreeOk_any _ _ _ xs _ (hz.out.more (by rw [hD.heap]; exact Nat.le_refl _)) hn).mono ?_
        rintro e w1 ⟨rfl, hd1⟩
        obtain ⟨hl1, hd2⟩ := (hz.out.drawn hd1).here hlt
        have HD := Lib.hid (hD.trans hd1)
        clear hd1 hl1 hl hd
        rw [Hok.out]
        go_wp2
        go_roundw
        case rel => exact ⟨k + 1, by omega, by go_num, by rw [max_if]; rfl, HD.out⟩
        case measure => simp [intOf]; omega
      · obtain rfl : k = n := by omega
        go_wp2
        go_ret
        exact ⟨Kit.ret_int (by rw [Hf.out, HL.out]), hD⟩

end Go.Proofs.Ytkccnlcghlkioaa

/- Contracts (LvsS). -/
namespace Go.Proofs.Ytkccnlcghlkioaa
open Go.RowKit
set_option linter.unusedVariables false

set_option maxHeartbeats 800000 in
set_option maxRecDepth 100000 in
theorem specLeavesOf_any (A : Option Addr) (n c : Nat) (xs : Tr) (w : World) (h : NdIn w w.heap.size A n xs) (hn : n ≤ 1048576) :
    Calls Try.prog 26 #[.slice A n c] w fun e w' => e = .returned (.int .i64 (Tr.leavesOf xs)) ∧ Drawn w w' := by
  have H := Lib.hid h
  clear h
  have HL := Lib.hid H.out.1
  rcases hok : Tr.ok xs with _ | _
  · have Hf := Lib.hid (show Tr.leavesOf xs = 0 by simp [Tr.leavesOf, hok])
    have Hok := Lib.hid hok
    clear hok
    go_enter Try.func26, Try.ntmps26
    go_wp2
    refine wp_loop_rounds 1 ?_
    rw [rounds_succ]
    by_cases h0 : 0 < n
    · go_wp2_with fail
      refine (specTreeOk_any _ _ _ xs _ H.out hn).mono ?_
      rintro e w1 ⟨rfl, hd⟩
      rw [Hok.out]
      go_wp2
      go_ret
      exact ⟨Kit.ret_int Hf.out.symm, hd⟩
    · obtain rfl : n = 0 := by omega
      go_wp2
      go_ret
      exact ⟨Kit.ret_int Hf.out.symm, Drawn.refl _⟩
  · have Hf := Lib.hid (show Tr.leavesOf xs = (Tr.leavesTo xs xs.length : Nat) by simp [Tr.leavesOf, hok])
    have Hhas := Lib.hid fun k : Nat => fun hk : k < n => (show Tr.endOf xs k = (Tr.endN xs k : Nat) by
      have : Tr.has xs k = true := Tr.has_iff.2 ⟨hok, by omega, by rw [HL.out]; omega⟩
      simp [Tr.endOf, this])
    have Hok := Lib.hid hok
    clear hok
    go_enter Try.func26, Try.ntmps26
    go_wp2
    go_loopw [4, 3] (fun kv nv wr => ∃ k : Nat, k ≤ n ∧ kv = .int .i64 k ∧ nv = .int .i64 (Tr.leavesTo xs k : Nat) ∧ Drawn w wr) (fun k _ _ => n - (intOf k).toNat)
    case atStart => exact ⟨0, by omega, rfl, rfl, Drawn.refl _⟩
    case round =>
      obtain ⟨k, hk, rfl, rfl, hD⟩ := hrel
      have hk0 : (0 : Int) ≤ (k : Int) := by omega
      have hle := Tr.leavesTo_le xs k
      by_cases hlt : k < n
      · have hz := Lib.hid (H.out.to_drawn hD)
        have He := Lib.hid (Hhas.out k hlt)
        have Hs := Lib.hid (show Tr.leavesTo xs (k + 1) = if Tr.endN xs k = k + 1 then Tr.leavesTo xs k + 1 else Tr.leavesTo xs k from rfl)
        go_wp2_with fail
        refine (specTreeOk_any _ _ _ xs _ hz.out hn).mono ?_
        rintro e w1 ⟨rfl, hd1⟩
        have hz1 := Lib.hid (hz.out.to_drawn hd1)
        have HD := Lib.hid (hD.trans hd1)
        clear hd1 hD hz
        rw [Hok.out]
        go_wp2_with fail
        refine (specEndOf_any _ _ _ xs _ _ hz1.out hn).mono ?_
        rintro e w2 ⟨rfl, hd2⟩
        have HD2 := Lib.hid (HD.out.trans hd2)
        clear hd2 HD
        rw [He.out]
        by_cases hq : Tr.endN xs k = k + 1
        · have q : (((Tr.endN xs k : Nat) : Int) == (k : Int) + 1) = true := by rw [hq]; simp
          have Hq := Lib.hid hq
          clear hq
          go_wp2
          go_roundw
          case rel => exact ⟨k + 1, by omega, by go_num, by rw [Hs.out, if_pos Hq.out]; go_num, HD2.out⟩
          case measure => simp [intOf]; omega
        · have q : (((Tr.endN xs k : Nat) : Int) == (k : Int) + 1) = false := by simp; omega
          have Hq := Lib.hid hq
          clear hq
          go_wp2
          go_roundw
          case rel => exact ⟨k + 1, by omega, by go_num, by rw [Hs.out, if_neg (by have := Hq.out; omega)], HD2.out⟩
          case measure => simp [intOf]; omega
      · obtain rfl : k = n := by omega
        go_wp2
        go_ret
        exact ⟨Kit.ret_int (by rw [Hf.out, HL.out]), hD⟩

end Go.Proofs.Ytkccnlcghlkioaa

/- Contracts (Cells). -/
namespace Go.Proofs.Ytkccnlcghlkioaa
open Go.RowKit
set_option linter.unusedVariables false

/-- two trees that a draw has laid -/
def DrawTT (w : World) (e : Ending) (w' : World) : Prop :=
  ∃ (xs ys : Tr) (A A' : Option Addr) (n n' cp cp' : Nat), e = .returned (.tuple #[.slice A n cp, .slice A' n' cp']) ∧ NdIn w' w'.heap.size A n xs ∧ NdIn w' w'.heap.size A' n' ys ∧ n ≤ cp ∧ n' ≤ cp' ∧ n ≤ 31 ∧ n' ≤ 31 ∧ Below w.heap.size w w'
set_option maxHeartbeats 400000 in
theorem drawCells_ex (w : World) (k : Code) (hcode : CodeIn w w.heap.size k.a k.cs) (hlen : k.cs.length ≤ 1048576) :
    Calls Try.prog 23 #[.slice k.a k.cs.length k.cap] w (DrawTT w) := by
  have HC := Lib.hid hcode
  clear hcode
  go_enter Try.func23, Try.ntmps23
  go_wp2_with fail
  refine (l1New_ex _ k HC.out hlen).mono ?_
  rintro e w1 ⟨rfl, c, g1⟩
  have HX := Lib.hid c
  have HG := Lib.hid g1
  have hlt := c.lt
  clear c g1
  go_wp2_with fail
  refine (l3Any_ex _ _ k 12 (by decide) HX.out).mono ?_
  rintro e w2 ⟨xs, A, n, cp, rfl, hn, hcp, hn31, c, g2⟩
  have HX2 := Lib.hid c
  have HN := Lib.hid hn
  have HG2 := Lib.hid g2
  clear c g2 hn
  go_wp2_with fail
  refine (l3Any_ex _ _ k 12 (by decide) HX2.out).mono ?_
  rintro e w3 ⟨ys, A', n', cp', rfl, hn', hcp', hn31', c, g3⟩
  have HN2 := Lib.hid (HN.out.cur hlt g3)
  have HN' := Lib.hid hn'
  have HG3 := Lib.hid g3
  clear c g3 hn'
  go_wp2
  go_ret2
  have b1 : Below w.heap.size w w1 := (Below.refl w.heap.size w).grown HG.out (Nat.le_refl _) (fun _ h => by cases h)
  have b2 := Kit.below_of_grown HG2.out (B := w.heap.size) (fun k hk => by injection hk with hk; omega) HG.out.size
  have b3 := Kit.below_of_grown HG3.out (B := w.heap.size) (fun k hk => by injection hk with hk; omega) (Nat.le_trans HG.out.size HG2.out.size)
  exact ⟨xs, ys, A, A', n, n', cp, cp', rfl, HN2.out.1, HN'.out.1, hcp, hcp', hn31, hn31', (b1.trans b2).trans b3⟩
set_option maxHeartbeats 3200000 in
set_option maxRecDepth 100000 in
theorem cells_any (k : Code) (w : World) (hcode : CodeIn w w.heap.size k.a k.cs) (hlen : k.cs.length ≤ 1048576) :
    Calls Try.prog 6 #[.slice k.a k.cs.length k.cap] w fun e w' => e = .returned (.bool true) ∧ Below w.heap.size w w' := by
  have HC := Lib.hid hcode
  clear hcode
  go_enter Try.func6, Try.ntmps6
  go_wp2_with fail
  refine (big_small _ _ _ (by omega) _).mono ?_
  rintro e w0 ⟨rfl, rfl⟩
  go_wp2_with fail
  refine (drawCells_ex _ k HC.out hlen).mono ?_
  rintro e w1 ⟨xs, ys, A, A', n, n', cp, cp', rfl, hn, hn', hcp, hcp', h31, h31', hb⟩
  have HN := Lib.hid hn
  have HN' := Lib.hid hn'
  have HW := Lib.hid hb
  have hlx := hn.1
  have hly := hn'.1
  clear hn hn' hb
  obtain ⟨c8, hc8⟩ : ∃ c, c = Tr.cells8 xs ys := ⟨_, rfl⟩
  have HC8 := Lib.hid hc8
  go_wp2_with fail
  refine (implCellsIn_any _ _ _ _ _ _ xs ys _ HN.out HN'.out (by omega) (by omega) hcp hcp').mono ?_
  rintro e w2 ⟨rfl, hb⟩
  have HN := Lib.hid (HN.out.to_below hb)
  have HN' := Lib.hid (HN'.out.to_below hb)
  have HW := Lib.hid (HW.out.trans (hb.mono HW.out.size))
  clear hb
  rw [← HC8.out]
  clear hc8
  cases hx : Tr.ok xs with
  | false =>
    have hz : c8 = 0 := by rw [HC8.out]; unfold Tr.cells8; rw [Tr.keySz_no hx, Int.zero_mul]
    subst hz
    have HX := Lib.hid hx
    clear hx
    go_wp2_with fail
    refine (specTreeOk_any _ _ _ xs _ HN.out (by omega)).mono ?_
    rintro e w3 ⟨rfl, hd⟩
    have HW := Lib.hid (Drawn.below HW.out hd)
    clear hd
    rw [HX.out]
    go_wp2
    go_ret
    exact ⟨rfl, HW.out⟩
  | true =>
    cases hy : Tr.ok ys with
    | false =>
      have hz : c8 = 0 := by rw [HC8.out]; unfold Tr.cells8; rw [Tr.keySz_no hy, Int.mul_zero]
      subst hz
      have HX := Lib.hid hx
      have HY := Lib.hid hy
      clear hx hy
      go_wp2_with fail
      refine (specTreeOk_any _ _ _ xs _ HN.out (by omega)).mono ?_
      rintro e w3 ⟨rfl, hd⟩
      have HN' := Lib.hid (HN'.out.to_drawn hd)
      have HW := Lib.hid (Drawn.below HW.out hd)
      clear hd
      rw [HX.out]
      go_wp2_with fail
      refine (specTreeOk_any _ _ _ ys _ HN'.out (by omega)).mono ?_
      rintro e w4 ⟨rfl, hd⟩
      have HW := Lib.hid (Drawn.below HW.out hd)
      clear hd
      rw [HY.out]
      go_wp2
      go_ret
      exact ⟨rfl, HW.out⟩
    | true =>
      obtain ⟨n1, n24⟩ := Tr.len24 hx
      obtain ⟨m1, m24⟩ := Tr.len24 hy
      obtain ⟨h, hh⟩ : ∃ h, h = Tr.heightTo xs xs.length := ⟨_, rfl⟩
      obtain ⟨l, hl⟩ : ∃ l : Int, l = (Tr.leavesTo xs xs.length : Nat) := ⟨_, rfl⟩
      obtain ⟨h', hh'⟩ : ∃ h, h = Tr.heightTo ys ys.length := ⟨_, rfl⟩
      obtain ⟨l', hl'⟩ : ∃ l : Int, l = (Tr.leavesTo ys ys.length : Nat) := ⟨_, rfl⟩
      have law := Tr.cells_law hx hy (n := (n : Int)) (m := (n' : Int)) (by omega) (by omega) hh hl hh' hl'
      have p1 := Tr.height_pos hx
      have p2 := Tr.height_pos hy
      have q1 := Tr.leavesTo_le xs xs.length
      have q2 := Tr.leavesTo_le ys ys.length
      rw [← hh] at p1
      rw [← hh'] at p2
      rw [← HC8.out] at law
      obtain ⟨mh, hmh⟩ : ∃ z, z = min h l := ⟨_, rfl⟩
      obtain ⟨mh', hmh'⟩ : ∃ z, z = min h' l' := ⟨_, rfl⟩
      obtain ⟨P, hP⟩ : ∃ z, z = (n : Int) * (n' : Int) := ⟨_, rfl⟩
      obtain ⟨Q, hQ⟩ : ∃ z, z = P * mh := ⟨_, rfl⟩
      obtain ⟨R, hR⟩ : ∃ z, z = Q * mh' := ⟨_, rfl⟩
      rw [← hP, ← hmh, ← hmh', ← hQ, ← hR] at law
      have bm : 0 ≤ mh ∧ mh ≤ 24 := by omega
      have bm' : 0 ≤ mh' ∧ mh' ≤ 24 := by omega
      have bP : 0 ≤ P ∧ P ≤ 576 := by rw [hP]; exact ⟨Int.mul_nonneg (by omega) (by omega), Int.le_trans (Int.mul_le_mul (show _ ≤ (24 : Int) by omega) (show _ ≤ (24 : Int) by omega) (by omega) (by omega)) (by omega)⟩
      have bQ : 0 ≤ Q ∧ Q ≤ 13824 := by rw [hQ]; exact ⟨Int.mul_nonneg bP.1 bm.1, Int.le_trans (Int.mul_le_mul bP.2 bm.2 bm.1 (by omega)) (by omega)⟩
      have bR : 0 ≤ R ∧ R ≤ 331776 := by rw [hR]; exact ⟨Int.mul_nonneg bQ.1 bm'.1, Int.le_trans (Int.mul_le_mul bQ.2 bm'.2 bm'.1 (by omega)) (by omega)⟩
      have a1 : IntKind.i64.wrap ((n : Int) * (n' : Int)) = P := by rw [← hP]; exact Kit.w64 (by omega) (by omega)
      have a2 : IntKind.i64.wrap (P * mh) = Q := by rw [← hQ]; exact Kit.w64 (by omega) (by omega)
      have a3 : IntKind.i64.wrap (Q * mh') = R := by rw [← hR]; exact Kit.w64 (by omega) (by omega)
      have e1 : (if l < h then l else h) = mh := by rw [hmh]; exact min_if h l
      have e2 : (if l' < h' then l' else h') = mh' := by rw [hmh']; exact min_if h' l'
      have d1 : decide (P ≤ c8) = true := by simp; exact law.1
      have d2 : decide (c8 ≤ R) = true := by simp; exact law.2
      have d3 : (c8 == c8) = true := by simp
      have HH := Lib.hid (show Tr.heightOf xs = h by unfold Tr.heightOf; rw [hx, hh]; rfl)
      have HL := Lib.hid (show Tr.leavesOf xs = l by unfold Tr.leavesOf; rw [hx, hl]; rfl)
      have HH' := Lib.hid (show Tr.heightOf ys = h' by unfold Tr.heightOf; rw [hy, hh']; rfl)
      have HL' := Lib.hid (show Tr.leavesOf ys = l' by unfold Tr.leavesOf; rw [hy, hl']; rfl)
      have HX := Lib.hid hx
      have HY := Lib.hid hy
      have HLAW := Lib.hid law
      clear hx hy hh hl hh' hl' hmh hmh' hP hQ hR law
      go_wp2_with fail
      refine (specTreeOk_any _ _ _ xs _ HN.out (by omega)).mono ?_
      rintro e w3 ⟨rfl, hd⟩
      have HN := Lib.hid (HN.out.to_drawn hd)
      have HN' := Lib.hid (HN'.out.to_drawn hd)
      have HW := Lib.hid (Drawn.below HW.out hd)
      clear hd
      rw [HX.out]
      go_wp2_with fail
      refine (specTreeOk_any _ _ _ ys _ HN'.out (by omega)).mono ?_
      rintro e w4 ⟨rfl, hd⟩
      have HN := Lib.hid (HN.out.to_drawn hd)
      have HN' := Lib.hid (HN'.out.to_drawn hd)
      have HW := Lib.hid (Drawn.below HW.out hd)
      clear hd
      rw [HY.out]
      go_wp2_with fail
      refine (specHeightOf_any _ _ _ xs _ HN.out (by omega)).mono ?_
      rintro e w5 ⟨rfl, hd⟩
      have HN := Lib.hid (HN.out.to_drawn hd)
      have HN' := Lib.hid (HN'.out.to_drawn hd)
      have HW := Lib.hid (Drawn.below HW.out hd)
      clear hd
      rw [HH.out]
      go_wp2_with fail
      refine (specLeavesOf_any _ _ _ xs _ HN.out (by omega)).mono ?_
      rintro e w6 ⟨rfl, hd⟩
      have HN := Lib.hid (HN.out.to_drawn hd)
      have HN' := Lib.hid (HN'.out.to_drawn hd)
      have HW := Lib.hid (Drawn.below HW.out hd)
      clear hd
      rw [HL.out]
      go_wp2_with fail
      refine (specHeightOf_any _ _ _ ys _ HN'.out (by omega)).mono ?_
      rintro e w7 ⟨rfl, hd⟩
      have HN := Lib.hid (HN.out.to_drawn hd)
      have HN' := Lib.hid (HN'.out.to_drawn hd)
      have HW := Lib.hid (Drawn.below HW.out hd)
      clear hd
      rw [HH'.out]
      go_wp2_with fail
      refine (specLeavesOf_any _ _ _ ys _ HN'.out (by omega)).mono ?_
      rintro e w8 ⟨rfl, hd⟩
      have HN := Lib.hid (HN.out.to_drawn hd)
      have HN' := Lib.hid (HN'.out.to_drawn hd)
      have HW := Lib.hid (Drawn.below HW.out hd)
      clear hd
      rw [HL'.out]
      go_wp2_with fail
      refine (specCellsIn_any _ _ _ _ _ _ xs ys _ HN.out HN'.out (by omega) (by omega)).mono ?_
      rintro e w9 ⟨rfl, hb⟩
      have HW := Lib.hid (HW.out.trans (hb.mono HW.out.size))
      clear hb
      rw [← HC8.out]
      go_wp2
      go_ret
      exact ⟨rfl, HW.out⟩

end Go.Proofs.Ytkccnlcghlkioaa

/- Contracts (ExCells). -/
namespace Go.Proofs.Ytkccnlcghlkioaa
open Go.RowKit
set_option linter.unusedVariables false

set_option maxHeartbeats 400000 in
theorem cells_walk (a : Option Addr) (n cap : Nat) (zs : List Int) (w : World) (hz : Kit.BytesIn w a n cap zs) :
    Calls Try.prog 6 #[.slice a n cap] w fun e w' => e = .returned (.bool true) ∧ Below w.heap.size w w' := by
  by_cases hb : (1048576 : Int) < n
  · clear hz
    go_enter Try.func6, Try.ntmps6
    go_wp2_with fail
    refine (big_big _ _ _ hb _).mono ?_
    rintro e w0 ⟨rfl, rfl⟩
    go_wp2
    go_ret
    exact ⟨rfl, Below.refl _ _⟩
  · obtain ⟨hl, hcode⟩ := code_of hz
    have h := cells_any ⟨a, zs.take n, cap⟩ w hcode (by simp only; omega)
    simp only [hl] at h
    exact h

end Go.Proofs.Ytkccnlcghlkioaa
