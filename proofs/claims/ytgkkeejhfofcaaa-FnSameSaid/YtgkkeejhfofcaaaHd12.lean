/- Texts of one claim laid into one file, in build order: RopI, Lo0, KinP, KidsP. -/
import Derived.Test.YtgkkeejhfofcaaaHd11
import Derived.Test.YtgkkeejhfofcaaaHd2
import Derived.Test.YtgkkeejhfofcaaaHd3
import Derived.Test.YtgkkeejhfofcaaaHd6
import Derived.Test.YtgkkeejhfofcaaaHd7
import Derived.Test.YtgkkeejhfofcaaaHd9
import Derived.Outline
import Derived.Test.YtgkkeejhfofcaaaRows
/- Contracts (RopI). -/
namespace Go.Proofs.Ytgkkeejhfofcaaa
open Go.RowKit
set_option linter.unusedVariables false

set_option maxHeartbeats 800000 in
set_option maxRecDepth 100000 in
theorem implRootsPaired_any (A : Option Addr) (n c : Nat) (xs : Tr) (w : World) (h : NdIn w w.heap.size A n xs) (hn : n ≤ 1048576) :
    Calls Try.prog 63 #[.slice A n c] w fun e w' => e = .returned (.bool (Tr.rooted xs)) ∧ Drawn w w' := by
  have H := Lib.hid h
  have HL := Lib.hid h.1
  clear h
  by_cases hlt : 0 < n
  · obtain ⟨ad, rfl, hb, hl, hd⟩ := H.out.at_ hlt
    rw [Nat.zero_mul, Addr.add_zero'] at hl
    rw [Nat.zero_mul, Addr.add_zero'] at hd
    have hg : decide (0 < n) = true := decide_eq_true hlt
    by_cases h1 : Tr.l xs 0 = 0
    · by_cases h2 : Tr.d xs 0 = 0
      · have hf := Lib.hid (show Tr.rooted xs = true by unfold Tr.rooted; rw [HL.out]; simp [hlt, h1, h2])
        have q1 : (Tr.l xs 0 == 0) = true := by simpa using h1
        have q2 : (Tr.d xs 0 == 0) = true := by simpa using h2
        clear h1 h2
        go_enter Try.func63, Try.ntmps63
        go_wp2
        go_ret
        exact ⟨Kit.ret_bool hf.out.symm, Drawn.refl _⟩
      · have hf := Lib.hid (show Tr.rooted xs = false by unfold Tr.rooted; rw [HL.out]; simp [hlt, h1, h2])
        have q1 : (Tr.l xs 0 == 0) = true := by simpa using h1
        have q2 : (Tr.d xs 0 == 0) = false := by simpa using h2
        clear h1 h2
        go_enter Try.func63, Try.ntmps63
        go_wp2
        go_ret
        exact ⟨Kit.ret_bool hf.out.symm, Drawn.refl _⟩
    · have hf := Lib.hid (show Tr.rooted xs = false by unfold Tr.rooted; rw [HL.out]; simp [hlt, h1])
      have q1 : (Tr.l xs 0 == 0) = false := by simpa using h1
      clear h1
      go_enter Try.func63, Try.ntmps63
      go_wp2
      go_ret
      exact ⟨Kit.ret_bool hf.out.symm, Drawn.refl _⟩
  · obtain rfl : n = 0 := by omega
    have hf := Lib.hid (show Tr.rooted xs = false by unfold Tr.rooted; rw [HL.out]; rfl)
    go_enter Try.func63, Try.ntmps63
    go_wp2
    go_ret
    exact ⟨Kit.ret_bool hf.out.symm, Drawn.refl _⟩

end Go.Proofs.Ytgkkeejhfofcaaa

/- Contracts (Lo0). -/
namespace Go.Proofs.Ytgkkeejhfofcaaa
open Go.RowKit
set_option linter.unusedVariables false


/-! Lower of a mapping that changes nothing. -/
set_option maxHeartbeats 800000 in
set_option maxRecDepth 100000 in
theorem relabelings_none (A A' A'' : Option Addr) (n n' n'' c c' c'' : Nat) (xs ys ms : Tr) (w : World) (h : NdIn w w.heap.size A n xs) (h' : NdIn w w.heap.size A' n' ys) (h'' : NdIn w w.heap.size A'' n'' ms) (hn'' : n'' ≤ 1048576)
    (hm : ∀ k, k < n'' → (∃ a b : Nat, Tr.l ms k = a ∧ Tr.d ms k = b ∧ a < n ∧ b < n' ∧ Tr.l xs a = Tr.l ys b)) :
    Calls Try.prog 65 #[.slice A n c, .slice A' n' c', .slice A'' n'' c''] w fun e w' => e = .returned (.slice none 0 0) ∧ Below w.heap.size w w' := by
  have H := Lib.hid h
  have H' := Lib.hid h'
  have H'' := Lib.hid h''
  have HM := Lib.hid hm
  clear h h' h'' hm
  go_enter Try.func65, Try.ntmps65
  go_wp2
  go_loopw [13, 7] (fun iv ov wr => ∃ k : Nat, k ≤ n'' ∧ iv = .int .i64 k ∧ ov = .slice none 0 0 ∧ Below w.heap.size w wr) (fun i _ _ => n'' - (intOf i).toNat)
  case atStart => exact ⟨0, by omega, rfl, rfl, Below.refl _ _⟩
  case round =>
    obtain ⟨k, hk, rfl, rfl, hB⟩ := hrel
    have HB := Lib.hid hB
    have hsz := hB.size
    clear hB
    by_cases hlt : k < n''
    · obtain ⟨ad, rfl, hb, hl, hd⟩ := (H''.out.to_below HB.out).at_ hlt
      obtain ⟨a, b, ea, eb, la, lb, e⟩ := HM.out k hlt
      rw [ea] at hl
      rw [eb] at hd
      obtain ⟨wz, hwz⟩ : ∃ wz, wz = wr.alloc (.cells #[.int .i64 (a : Int), .int .i64 (b : Int)] 124) := ⟨_, rfl⟩
      have HZB := Lib.hid (show Below wr.heap.size wr wz by rw [hwz]; exact (Below.refl _ _).alloc (Nat.le_refl _) _)
      have HB2 := Lib.hid (HB.out.trans (HZB.out.mono hsz))
      obtain ⟨bd, rfl, _, x0, _⟩ := (H.out.to_below HB2.out).at_ la
      obtain ⟨cd, rfl, _, y0, _⟩ := (H'.out.to_below HB2.out).at_ lb
      have p0 : wz.cell? ⟨wr.heap.size, 0, none⟩ = some (.int .i64 (a : Int)) := by rw [hwz]; simp
      have p1 : wz.cell? ⟨wr.heap.size, 1, none⟩ = some (.int .i64 (b : Int)) := by rw [hwz]; simp
      obtain ⟨z, hz⟩ : ∃ z, z = Tr.l ys b := ⟨_, rfl⟩
      rw [← hz] at e y0
      rw [e] at x0
      have q0 : (z != z) = false := by simp
      have g0 : (0 : Int) ≤ (a : Int) := by omega
      have g1 : (a : Int) < (n : Int) := by omega
      have g2 : (0 : Int) ≤ (b : Int) := by omega
      have g3 : (b : Int) < (n' : Int) := by omega
      have HZ := Lib.hid hwz
      rw [hwz] at p0 p1 x0 y0
      clear hz e ea eb hwz
      go_wp2
      rw [← HZ.out]
      go_roundw
      case rel => exact ⟨k + 1, by omega, by go_num, rfl, HB2.out⟩
      case measure => simp [intOf]; omega
    · obtain rfl : k = n'' := by omega
      go_wp2
      go_ret
      exact ⟨rfl, HB.out⟩
set_option maxHeartbeats 800000 in
set_option maxRecDepth 100000 in
theorem deletions_none (A A' : Option Addr) (n n' c c' : Nat) (xs ms : Tr) (w : World) (h : NdIn w w.heap.size A n xs) (h' : NdIn w w.heap.size A' n' ms) (hn : n ≤ 1048576) (hn' : n' ≤ 1048576) (hnc : n ≤ c) (hm : Un.to ms xs.length = []) :
    Calls Try.prog 66 #[.slice A n c, .slice A' n' c'] w fun e w' => e = .returned (.slice none 0 0) ∧ Below w.heap.size w w' := by
  have CU := Lib.hid (implUnmapped_any A A' n n' c c' xs ms w h h' hn hn')
  have H := Lib.hid h
  have HPL := Lib.hid (show (Zs.up (Tr.post xs)).length ≤ 1048576 by have := Tr.post_len_le xs; have := h.1; simp [Zs.up]; omega)
  rw [hm] at CU
  clear h h' hm
  go_enter Try.func66, Try.ntmps66
  go_wp2_with fail
  refine CU.out.mono ?_
  rintro e w1 ⟨A1, c1, rfl, ho, hb⟩
  have HB := Lib.hid hb
  have HU := Lib.hid (IntIn.of_own ho)
  clear hb ho CU
  go_wp2_with fail
  refine (implPostOrder_any A n c xs w1 (H.out.to_below HB.out) hn hnc).mono ?_
  rintro e w2 ⟨A2, c2, rfl, ho, hb⟩
  have HB2 := Lib.hid (HB.out.trans (hb.mono HB.out.size))
  have HU2 := Lib.hid (HU.out.to_below hb)
  have HO := Lib.hid ho
  obtain ⟨N, hN⟩ : ∃ N, N = (Zs.up (Tr.post xs)).length := ⟨_, rfl⟩
  rw [← hN] at HO HPL ⊢
  have HNN := Lib.hid hN
  clear hb ho hN HU HB
  go_wp2
  go_loopw [18, 6] (fun iv ov wr => ∃ k : Nat, k ≤ N ∧ iv = .int .i64 k ∧ ov = .slice none 0 0 ∧ Below w2.heap.size w2 wr) (fun i _ _ => N - (intOf i).toNat)
  case atStart => exact ⟨0, by omega, by go_num, rfl, Below.refl _ _⟩
  case round =>
    obtain ⟨k, hk, rfl, rfl, hB⟩ := hrel
    have hN2 := HPL.out
    have HB := Lib.hid hB
    clear hB
    by_cases hlt : k < N
    · obtain ⟨ad, rfl, hb, hl⟩ := ((IntIn.of_own HO.out).to_below HB.out).at_ hlt
      have g0 : (0 : Int) ≤ (k : Int) := by omega
      have g1 : (k : Int) < (N : Int) := by omega
      have hq : decide (Zs.at (Zs.up (Tr.post xs)) k ∈ ([] : List Int)) = false := by simp
      go_wp2_with fail
      refine (slContains_any _ _ _ _ _ _ (HU2.out.to_below HB.out) (by simp)).mono ?_
      rintro e w3 ⟨rfl, rfl⟩
      rw [hq]
      go_wp2
      go_roundw
      case rel => exact ⟨k + 1, by omega, by go_num, rfl, HB.out⟩
      case measure => simp [intOf]; omega
    · obtain rfl : k = N := by omega
      go_wp2
      go_ret
      exact ⟨rfl, HB2.out.trans (HB.out.mono HB2.out.size)⟩
set_option maxHeartbeats 800000 in
set_option maxRecDepth 100000 in
theorem insertions_none (A A' : Option Addr) (n n' c c' : Nat) (xs ms : Tr) (w : World) (h : NdIn w w.heap.size A n xs) (h' : NdIn w w.heap.size A' n' ms) (hn : n ≤ 1048576) (hn' : n' ≤ 1048576) (hm : Un.to (Tr.turn ms) xs.length = []) :
    Calls Try.prog 67 #[.slice A n c, .slice A' n' c'] w fun e w' => e = .returned (.slice none 0 0) ∧ Below w.heap.size w w' := by
  have CU := Lib.hid (implMissing_any A A' n n' c c' xs ms w h h' hn hn')
  rw [hm] at CU
  clear h h' hm
  go_enter Try.func67, Try.ntmps67
  go_wp2_with fail
  refine CU.out.mono ?_
  rintro e w1 ⟨A1, c1, rfl, ho, hb⟩
  have HB := Lib.hid hb
  clear hb ho CU
  go_wp2
  go_loopw [15, 6] (fun iv ov wr => iv = .int .i64 0 ∧ ov = .slice none 0 0 ∧ Below w1.heap.size w1 wr) (fun i _ _ => 0)
  case atStart => exact ⟨rfl, rfl, Below.refl _ _⟩
  case round =>
    obtain ⟨rfl, rfl, hB⟩ := hrel
    have HB2 := Lib.hid (HB.out.trans (hB.mono HB.out.size))
    clear hB
    go_wp2
    go_ret
    exact ⟨rfl, HB2.out⟩
set_option maxHeartbeats 800000 in
set_option maxRecDepth 100000 in
theorem concatOps_none (b : Nat) (w : World) (h0 : w.cell? ⟨b, 0, none⟩ = some (.slice none 0 0)) (h1 : w.cell? ⟨b, 1, none⟩ = some (.slice none 0 0)) (h2 : w.cell? ⟨b, 2, none⟩ = some (.slice none 0 0)) :
    Calls Try.prog 64 #[.slice (some ⟨b, 0, none⟩) 3 3] w fun e w' => ∃ A c, e = .returned (.slice A 0 c) ∧ Below w.heap.size w w' := by
  have hb := World.block_lt_of_cell? _ _ h0
  have HC := Lib.hid (fun k (hk : k < 3) (wq : World) (hq : Below w.heap.size w wq) => show wq.cell? ⟨b, k, none⟩ = some (.slice none 0 0) from (hq.cell (p := ⟨b, k, none⟩) hb).trans (by rcases (show k = 0 ∨ k = 1 ∨ k = 2 by omega) with rfl | rfl | rfl <;> assumption))
  clear h0 h1 h2
  go_enter Try.func64, Try.ntmps64
  go_wp2
  go_loopw [11, 3] (fun iv sv wr => ∃ k : Nat, k ≤ 3 ∧ iv = .int .i64 k ∧ sv = .int .i64 0 ∧ Below w.heap.size w wr) (fun i _ _ => 3 - (intOf i).toNat)
  case atStart => exact ⟨0, by omega, rfl, rfl, Below.refl _ _⟩
  case round =>
    obtain ⟨k, hk, rfl, rfl, hB⟩ := hrel
    have HB := Lib.hid hB
    clear hB
    have g0 : (0 : Int) ≤ (k : Int) := by omega
    by_cases hlt : k < 3
    · have hc := HC.out k hlt _ HB.out
      have g1 : (k : Int) < 3 := by omega
      go_wp2
      go_roundw
      case rel => exact ⟨k + 1, by omega, by go_num, rfl, HB.out⟩
      case measure => simp [intOf]; omega
    · obtain rfl : k = 3 := by omega
      go_wp2
      go_loopw [27, 6] (fun iv sv wr => ∃ k : Nat, k ≤ 3 ∧ iv = .int .i64 k ∧ sv = .slice none 0 0 ∧ Below w.heap.size w wr) (fun i _ _ => 3 - (intOf i).toNat)
      case atStart => exact ⟨0, by omega, rfl, rfl, HB.out⟩
      case round =>
        obtain ⟨k, hk, rfl, rfl, hB⟩ := hrel
        have HB := Lib.hid hB
        clear hB
        have g0 : (0 : Int) ≤ (k : Int) := by omega
        by_cases hlt : k < 3
        · have hc := HC.out k hlt _ HB.out
          have g1 : (k : Int) < 3 := by omega
          go_wp2
          go_roundw
          case rel => exact ⟨k + 1, by omega, by go_num, rfl, HB.out⟩
          case measure => simp [intOf]; omega
        · obtain rfl : k = 3 := by omega
          go_wp2
          go_ret
          exact ⟨none, 0, rfl, HB.out⟩
set_option maxHeartbeats 800000 in
set_option maxRecDepth 100000 in
theorem implLower_none (A A' A'' : Option Addr) (n n' n'' c c' c'' : Nat) (xs ys ms : Tr) (w : World) (h : NdIn w w.heap.size A n xs) (h' : NdIn w w.heap.size A' n' ys) (h'' : NdIn w w.heap.size A'' n'' ms) (hn : n ≤ 1048576) (hn' : n' ≤ 1048576) (hn'' : n'' ≤ 1048576) (hc : n ≤ c) (hc' : n' ≤ c') (hc'' : n'' ≤ c'')
    (hok : Mp.ok xs ys ms = true) (hr : Tr.rooted ms = true) (hm : ∀ k, k < n'' → (∃ a b : Nat, Tr.l ms k = a ∧ Tr.d ms k = b ∧ a < n ∧ b < n' ∧ Tr.l xs a = Tr.l ys b)) (hu : Un.to ms xs.length = []) (hv : Un.to (Tr.turn ms) ys.length = []) :
    Calls Try.prog 16 #[.slice A n c, .slice A' n' c', .slice A'' n'' c''] w fun e w' => ∃ A9 c9, e = .returned (.slice A9 0 c9) ∧ Below w.heap.size w w' := by
  have CM := Lib.hid (implMapOk_any A A' A'' n n' n'' c c' c'' xs ys ms w h h' h'' hn hn' hn'' hc hc' hc'')
  rw [hok] at CM
  have CR := Lib.hid (fun (wq : World) (hb : Below w.heap.size w wq) => implRootsPaired_any A'' n'' c'' ms wq (h''.to_below hb) hn'')
  rw [hr] at CR
  have C1 := Lib.hid (fun (wq : World) (hb : Below w.heap.size w wq) => relabelings_none A A' A'' n n' n'' c c' c'' xs ys ms wq (h.to_below hb) (h'.to_below hb) (h''.to_below hb) hn'' hm)
  have C2 := Lib.hid (fun (wq : World) (hb : Below w.heap.size w wq) => deletions_none A A'' n n'' c c'' xs ms wq (h.to_below hb) (h''.to_below hb) hn hn'' hc hu)
  have C3 := Lib.hid (fun (wq : World) (hb : Below w.heap.size w wq) => insertions_none A' A'' n' n'' c' c'' ys ms wq (h'.to_below hb) (h''.to_below hb) hn' hn'' hv)
  clear h h' h'' hok hr hm hu hv
  go_enter Try.func16, Try.ntmps16
  go_wp2_with fail
  refine CM.out.mono ?_
  rintro e w1 ⟨rfl, hb⟩
  have HB := Lib.hid hb
  clear hb
  go_wp2_with fail
  refine (CR.out _ HB.out).mono ?_
  rintro e w2 ⟨rfl, hb⟩
  have HB2 := Lib.hid (HB.out.trans (hb.toBelow.mono HB.out.size))
  clear hb
  go_wp2_with fail
  refine (C1.out _ HB2.out).mono ?_
  rintro e w3 ⟨rfl, hb⟩
  have HB3 := Lib.hid (HB2.out.trans (hb.mono HB2.out.size))
  clear hb
  go_wp2_with fail
  refine (C2.out _ HB3.out).mono ?_
  rintro e w4 ⟨rfl, hb⟩
  have HB4 := Lib.hid (HB3.out.trans (hb.mono HB3.out.size))
  clear hb
  go_wp2_with fail
  refine (C3.out _ HB4.out).mono ?_
  rintro e w5 ⟨rfl, hb⟩
  have HB5 := Lib.hid (HB4.out.trans (hb.mono HB4.out.size))
  clear hb
  go_wp2_with fail
  refine (concatOps_none w5.heap.size _ (by simp) (by simp) (by simp)).mono ?_
  rintro e w6 ⟨A9, c9, rfl, hb⟩
  have hs5 := HB5.out.size
  have HB6 := Lib.hid ((HB5.out.alloc hs5 (.cells #[.slice none 0 0, .slice none 0 0, .slice none 0 0] 34)).trans (hb.mono (by simp; omega)))
  clear hb
  go_wp2
  go_ret
  exact ⟨A9, c9, rfl, HB6.out⟩

end Go.Proofs.Ytgkkeejhfofcaaa

/- Contracts (KinP). -/
namespace Go.Proofs.Ytgkkeejhfofcaaa
open Go.RowKit
set_option linter.unusedVariables false

/-! mathematics of the laws on kin -/
theorem Tr.has_nat {xs : Tr} {i : Nat} (hok : Tr.ok xs = true) (hi : i < xs.length) : Tr.has xs (i : Int) = true := Tr.has_iff.2 ⟨hok, Int.natCast_nonneg i, Int.ofNat_lt.2 hi⟩
theorem Tr.under_nat {xs : Tr} {i j : Nat} (hok : Tr.ok xs = true) (hi : i < xs.length) (hj : j < xs.length) : Tr.under xs i j = decide (i < j ∧ j < Tr.endN xs i) := by
  unfold Tr.under
  rw [Tr.has_nat hok hi, Tr.has_nat hok hj, Tr.endOf_yes (Tr.has_nat hok hi), Bool.eq_iff_iff]
  simp
def Bs.count (bs : List Bool) (k : Nat) : Nat := (bs.take k).countP id
theorem Tr.back_is {xs : Tr} {dep : Int} {p : Nat} (hp : Tr.d xs p < dep) : ∀ j, p < j → (∀ m, p < m → m < j → dep ≤ Tr.d xs m) → Tr.back xs dep j = p := by
  intro j
  induction j with
  | zero => intro h _; omega
  | succ j ih =>
    intro h hall
    unfold Tr.back
    by_cases e : j = p
    · subst e; rw [if_pos hp]
    · have := hall j (by omega) (by omega)
      rw [if_neg (by omega)]
      exact ih (by omega) (fun m h1 h2 => hall m h1 (by omega))
theorem Tr.back_ex {xs : Tr} {dep : Int} : ∀ j, (∃ q, q < j ∧ Tr.d xs q < dep) → ∃ p, p < j ∧ Tr.d xs p < dep ∧ ∀ m, p < m → m < j → dep ≤ Tr.d xs m := by
  intro j
  induction j with
  | zero => rintro ⟨q, h, _⟩; omega
  | succ j ih =>
    rintro ⟨q, h1, h2⟩
    by_cases e : Tr.d xs j < dep
    · exact ⟨j, by omega, e, fun m a b => by omega⟩
    · have hq : q ≠ j := fun r => by subst r; exact e h2
      obtain ⟨p, a, b, c⟩ := ih ⟨q, by omega, h2⟩
      refine ⟨p, by omega, b, fun m d1 d2 => ?_⟩
      by_cases r : m = j
      · subst r; omega
      · exact c m d1 (by omega)
section
variable {xs : Tr} (hok : Tr.ok xs = true)
include hok
theorem Tr.parent_pos {j : Nat} (hj : j < xs.length) (h0 : 0 < j) : ∃ p : Nat, p < j ∧ Tr.parentOf xs (j : Int) = (p : Int) ∧ Tr.d xs p = Tr.d xs j - 1 ∧ j < Tr.endN xs p := by
  have hz := Tr.dn_zero hok
  have hz2 := Tr.dn_eq hok (i := 0) (by omega)
  have hk := (Tr.ok_at hok hj).2
  obtain ⟨p, h1, h2, h3⟩ := Tr.back_ex (xs := xs) (dep := Tr.d xs j) j ⟨0, h0, by
    have : ¬ Tr.d xs j = 0 := fun e => by have := hk.2.1.1 e; omega
    omega⟩
  have hb := Tr.back_is h2 j h1 h3
  have hp := Tr.endN_dn hok (i := p) (by omega)
  have hd1 := Tr.dn_eq hok (i := p) (by omega)
  have hd2 := Tr.dn_eq hok hj
  refine ⟨p, h1, ?_, ?_, ?_⟩
  · unfold Tr.parentOf
    rw [Tr.has_nat hok hj]
    exact hb
  · have hs := (Tr.dn_succ hok (i := p) (by omega)).2
    have hd3 := Tr.dn_eq hok (i := p + 1) (by omega)
    by_cases e : p + 1 = j
    · rw [e] at hs hd3; omega
    · have := h3 (p + 1) (by omega) (by omega)
      omega
  · by_cases e : j < Tr.endN xs p
    · exact e
    · exfalso
      rcases hp.2.2.2 with q | ⟨q1, q2⟩
      · omega
      · by_cases r : Tr.endN xs p = j
        · rw [r] at q2; omega
        · have := h3 (Tr.endN xs p) (by omega) (by omega)
          have := Tr.dn_eq hok (i := Tr.endN xs p) (by omega)
          omega
end

end Go.Proofs.Ytgkkeejhfofcaaa

/- Contracts (KidsP). -/
namespace Go.Proofs.Ytgkkeejhfofcaaa
open Go.RowKit
set_option linter.unusedVariables false

theorem Tr.kidsTo_more (xs : Tr) (i k : Nat) : ∀ m, k ≤ m → ∃ r, Tr.kidsTo xs i m = Tr.kidsTo xs i k ++ r := by
  intro m
  induction m with
  | zero => intro h; obtain rfl : k = 0 := by omega
            exact ⟨[], by simp⟩
  | succ m ih =>
    intro h
    by_cases e : k = m + 1
    · subst e; exact ⟨[], by simp⟩
    · obtain ⟨r, hr⟩ := ih (by omega)
      refine ⟨r ++ ([m].filter fun j => decide (i < j) && decide (Tr.d xs j = Tr.d xs i + 1)), ?_⟩
      rw [← List.append_assoc, ← hr]
      unfold Tr.kidsTo
      rw [List.range_succ, List.filter_append]
theorem Zs.find_mid (A r : List Int) (b : Int) (k : Nat) (h : ∀ a ∈ A, a ≠ b) : Zs.find (A ++ b :: r) b k = ((k + A.length : Nat) : Int) := by
  induction A generalizing k with
  | nil => simp [Zs.find]
  | cons a A ih =>
    have ha : a ≠ b := h a List.mem_cons_self
    simp only [List.cons_append, Zs.find]
    rw [if_neg ha, ih (k + 1) (fun x hx => h x (List.mem_cons_of_mem _ hx))]
    simp
    omega
section
variable {xs : Tr} (hok : Tr.ok xs = true)
include hok
/-- at place b of the children's row of i, b itself is the next kid -/
theorem Tr.kid_next {i b : Nat} (hi : i < xs.length) (hb : Tr.bound xs i b) (hlt : b < Tr.endN xs i) : ∃ r, Tr.kidsTo xs i (Tr.endN xs i) = Tr.kidsTo xs i b ++ b :: r := by
  obtain ⟨hn, hl⟩ := Tr.bound_next hok hi hb hlt
  obtain ⟨r, hr⟩ := Tr.kidsTo_more xs i (Tr.endN xs b) (Tr.endN xs i) hn.2.1
  exact ⟨r, by rw [hr, Tr.kids_in hok hi hb hlt hl (Nat.le_refl _), List.append_assoc]; rfl⟩
theorem Tr.kid_parent {i b : Nat} (hi : i < xs.length) (hb : Tr.bound xs i b) (hlt : b < Tr.endN xs i) : Tr.parentOf xs (b : Int) = (i : Int) := by
  have a := Tr.endN_dn hok hi
  have hbn : b < xs.length := by omega
  have hd := hb.2.2 hlt
  have h1 := Tr.dn_eq hok hi
  have h2 := Tr.dn_eq hok hbn
  unfold Tr.parentOf
  rw [Tr.has_nat hok hbn]
  refine Tr.back_is (xs := xs) (p := i) (by simp; omega) b hb.1 (fun m q1 q2 => ?_)
  have := a.2.2.1 m q1 (by omega)
  have := Tr.dn_eq hok (i := m) (by omega)
  simp
  omega
theorem Tr.kid_rank {i b : Nat} (hi : i < xs.length) (hb : Tr.bound xs i b) (hlt : b < Tr.endN xs i) : Tr.kidRank xs (b : Int) = ((Tr.kidsTo xs i b).length : Nat) := by
  unfold Tr.kidRank
  rw [Tr.kid_parent hok hi hb hlt, if_neg (by omega)]
  obtain ⟨r, hr⟩ := Tr.kid_next hok hi hb hlt
  rw [show Tr.kidsOf xs (i : Int) = Tr.kidsTo xs i (Tr.endN xs i) by unfold Tr.kidsOf; rw [Tr.has_nat hok hi]; rfl, hr, List.map_append, List.map_cons, Zs.find_mid]
  · simp
  · intro a ha
    obtain ⟨m, hm, rfl⟩ := List.mem_map.1 ha
    unfold Tr.kidsTo at hm
    simp only [List.mem_filter, List.mem_range] at hm
    omega
/-- one round over the children: the j-th kid stands at b -/
theorem Tr.kid_round {i b j : Nat} (hi : i < xs.length) (hb : Tr.bound xs i b) (hj : (Tr.kidsTo xs i b).length = j) (hlt : j < (Tr.kidsTo xs i (Tr.endN xs i)).length) :
    b < xs.length ∧ Zs.at (Tr.kidsI xs (i : Int)) j = (b : Int) ∧ Tr.parentOf xs (b : Int) = (i : Int) ∧ Tr.kidRank xs (b : Int) = (j : Int) ∧
    (Tr.subTree xs (b : Int)).length = Tr.endN xs b - b ∧ Tr.bound xs i (Tr.endN xs b) ∧ (Tr.kidsTo xs i (Tr.endN xs b)).length = j + 1 ∧ b < Tr.endN xs b ∧ Tr.endN xs b ≤ xs.length ∧ i < b := by
  have a := Tr.endN_dn hok hi
  have hbe : b < Tr.endN xs i := by
    have := hb.2.1
    by_cases e : b = Tr.endN xs i
    · rw [e] at hj; omega
    · omega
  have hbn : b < xs.length := by omega
  obtain ⟨r, hr⟩ := Tr.kid_next hok hi hb hbe
  obtain ⟨hn, hl⟩ := Tr.bound_next hok hi hb hbe
  refine ⟨hbn, ?_, Tr.kid_parent hok hi hb hbe, by rw [Tr.kid_rank hok hi hb hbe, hj], ?_, hn, ?_, hl, (Tr.endN_dn hok hbn).2.1, hb.1⟩
  · rw [Tr.kidsI_yes (Tr.has_nat hok hi)]
    unfold Tr.kidsZ
    rw [hr]
    simp [Zs.at, List.getD_eq_getElem?_getD, ← hj]
  · rw [Tr.subTree_yes (Tr.has_nat hok hbn), Tr.subTo_length]
  · rw [Tr.kids_in hok hi hb hbe hl (Nat.le_refl _), List.length_append, hj]; rfl
theorem Tr.kid_last {i b j : Nat} (hi : i < xs.length) (hb : Tr.bound xs i b) (hj : (Tr.kidsTo xs i b).length = j) (hlt : j = (Tr.kidsTo xs i (Tr.endN xs i)).length) : b = Tr.endN xs i := by
  have := hb.2.1
  by_cases e : b = Tr.endN xs i
  · exact e
  · obtain ⟨r, hr⟩ := Tr.kid_next hok hi hb (by omega)
    rw [hr, List.length_append, List.length_cons] at hlt
    omega
end

end Go.Proofs.Ytgkkeejhfofcaaa
