/- Texts of one claim laid into one file, in build order: NdPt, TurI, NdSm, SaMS, NewT, StepP. -/
import Derived.Test.YtlndaflhlkbedaaMc5
import Derived.Test.YtlndaflhlkbedaaMg12
import Derived.Laws.Entries
import Derived.Laws.MakeOwn
import Derived.Maps.AppendAt
import Derived.Maps.Own
import Derived.Outline
import Derived.StillTailTactics
import Derived.Test.YtlndaflhlkbedaaRows
/- Lists of which the first part is laid (NdPt). -/
namespace Go.Proofs.Ytlndaflhlkbedaa
open Go.RowKit
set_option linter.unusedVariables false

/-- the first k nodes of xs, then zeros -/
def Tr.part (xs : Tr) (k : Nat) : Tr := xs.take k ++ List.replicate (xs.length - k) (0, 0)
theorem Tr.part_length (xs : Tr) (k : Nat) (hk : k ≤ xs.length) : (Tr.part xs k).length = xs.length := by simp [Tr.part]; omega
theorem Tr.part_set (xs : Tr) (k : Nat) (hk : k < xs.length) : (Tr.part xs k).set k (Tr.l xs k, Tr.d xs k) = Tr.part xs (k + 1) := by
  unfold Tr.part
  rw [List.set_append_right _ _ (by simp; omega)]
  rw [List.take_succ_eq_append_getElem hk, List.append_assoc]
  congr 1
  rw [show xs.length - k = (xs.length - (k + 1)) + 1 by omega, List.replicate_succ]
  simp [Tr.l, Tr.d, List.getD_eq_getElem?_getD, hk, show k - min k xs.length = 0 by omega]
theorem Tr.part_full (xs : Tr) : Tr.part xs xs.length = xs := by simp [Tr.part]
theorem Tr.part_none (xs : Tr) : Tr.part xs 0 = List.replicate xs.length (0, 0) := by simp [Tr.part]

theorem made_nodes (n : Nat) : (madeCells (Value.agg #[.int .i64 0, .int .i64 0]).cells (n * 2)).toList = Tr.cells (List.replicate n (0, 0)) := by
  have h1 (m : Nat) : Tr.cells (List.replicate m (0, 0)) = List.replicate (m * 2) (.int .i64 0) := by
    induction m with
    | zero => rfl
    | succ m ih => rw [List.replicate_succ, show (m + 1) * 2 = m * 2 + 1 + 1 by omega, List.replicate_succ, List.replicate_succ, ← ih]; rfl
  rw [h1]
  apply List.ext_getElem?
  intro j
  by_cases hj : j < n * 2
  · have h2 : j % 2 = 0 ∨ j % 2 = 1 := by omega
    rcases h2 with h2 | h2 <;> simp [madeCells, hj, h2, Value.cells]
  · simp [madeCells, hj]

end Go.Proofs.Ytlndaflhlkbedaa

/- Contracts (TurI). -/
namespace Go.Proofs.Ytlndaflhlkbedaa
open Go.RowKit
set_option linter.unusedVariables false

theorem info_prI : (Try.prog.info? 55).map (fun i => (i.zero, i.size, i.bytes)) = some (some (.agg #[.int .i64 0, .int .i64 0]), 2, 16) := by kernel_rfl
set_option maxHeartbeats 800000 in
set_option maxRecDepth 100000 in
theorem implTurned_any (A : Option Addr) (n c : Nat) (xs : Tr) (w : World) (h : NdIn w w.heap.size A n xs) (hn : n ≤ 1048576) :
    Calls Try.prog 45 #[.slice A n c] w (OwnNodes 55 (Tr.turn xs) w) := by
  have H := Lib.hid h
  clear h
  have HL := Lib.hid H.out.1
  have HT := Lib.hid ((Tr.turn_length xs).trans HL.out)
  obtain ⟨i0, hi, hz0, hz1, hz2⟩ := info_parts info_prI
  go_enter Try.func45, Try.ntmps45
  go_wp2_with (at_make; refine wpList_make_full _ rfl _ _ 43 rfl w.heap.size 55 i0 (.agg #[.int .i64 0, .int .i64 0]) 2 Try.underlying43 hi hz0 hz1 _ _ _ _ n rfl rfl rfl rfl (by rw [hz2]; omega) (by unfold maxLen; omega) (Nat.le_refl _) ?_; intro w1 hown1 hgrow1)
  have hb1 : Below w.heap.size w w1 := (Below.refl _ w).grown hgrow1 (Nat.le_refl _) (fun _ h => by cases h)
  rw [made_nodes, ← HT.out, ← Tr.part_none, HT.out] at hown1
  go_loopw [11] (fun iv wr => ∃ k : Nat, k ≤ n ∧ iv = .int .i64 k ∧ wr.ownsRow w.heap.size 55 2 (.slice (some ⟨w.heap.size, 0, none⟩) n n) n (Tr.cells (Tr.part (Tr.turn xs) k)) ∧ Below w.heap.size w wr) (fun i _ => n - (intOf i).toNat)
  case atStart => exact ⟨0, by omega, rfl, hown1, hb1⟩
  case round =>
    obtain ⟨k, hk, rfl, hown, hB⟩ := hrel
    have hsz := hB.size
    by_cases hlt : k < n
    · obtain ⟨ad, rfl, hb, hl, hd⟩ := (H.out.below hB).at_ hlt
      obtain ⟨wz, hwz⟩ : ∃ wz, wz = wr.alloc (.cells #[.int .i64 (Tr.l xs k), .int .i64 (Tr.d xs k)] 55) := ⟨_, rfl⟩
      have hb2 := Lib.hid (show Below wr.heap.size wr wz by rw [hwz]; exact (Below.refl _ _).alloc (Nat.le_refl _) _)
      have Ho := Lib.hid (own_below hown hb2.out)
      have HB := Lib.hid hB
      have HZ := Lib.hid hwz
      have c0 := own_even Ho.out (k := k) (by rw [Tr.part_length _ _ (by rw [HT.out]; omega), HT.out]; omega)
      have c1 := own_odd Ho.out (k := k) (by rw [Tr.part_length _ _ (by rw [HT.out]; omega), HT.out]; omega)
      have f0 := Ho.out.frozenAt (k * 2)
      have f1 := Ho.out.frozenAt (k * 2 + 1)
      have p0 : wz.cell? ⟨wr.heap.size, 0, none⟩ = some (.int .i64 (Tr.l xs k)) := by rw [hwz]; simp
      have p1 : wz.cell? ⟨wr.heap.size, 1, none⟩ = some (.int .i64 (Tr.d xs k)) := by rw [hwz]; simp
      rw [hwz] at c0 c1 f0 f1 p0 p1
      clear hown hB hwz
      go_wp2
      rw [← HZ.out]
      go_roundw
      case rel =>
        refine ⟨k + 1, by omega, by go_num, ?_, ?_⟩
        · have := own_set Ho.out k (Tr.d xs k) (Tr.l xs k)
          rw [← Tr.turn_l xs (by rw [HL.out]; exact hlt), ← Tr.turn_d xs (by rw [HL.out]; exact hlt), Tr.part_set (Tr.turn xs) k (by rw [HT.out]; exact hlt)] at this
          rw [← Tr.turn_l xs (by rw [HL.out]; exact hlt), ← Tr.turn_d xs (by rw [HL.out]; exact hlt)]
          exact this
        · exact ((HB.out.trans (hb2.out.mono hsz)).setCell (Nat.le_refl _) _).setCell (Nat.le_refl _) _
      case measure => simp [intOf]; omega
    · obtain rfl : k = n := by omega
      rw [← HT.out, Tr.part_full, HT.out] at hown
      rw [← HT.out] at hown
      go_wp2
      go_ret
      exact ⟨some ⟨w.heap.size, 0, none⟩, k, by rw [HT.out]; rfl, by rw [HT.out] at hown ⊢; exact hown, hB⟩

end Go.Proofs.Ytlndaflhlkbedaa

/- Two lists of nodes that agree so far. -/
namespace Go.Proofs.Ytlndaflhlkbedaa
open Go.RowKit
set_option linter.unusedVariables false

/-- the first k nodes agree -/
def Tr.same (xs ys : Tr) (k : Nat) : Prop := ∀ j, j < k → Tr.l xs j = Tr.l ys j ∧ Tr.d xs j = Tr.d ys j

end Go.Proofs.Ytlndaflhlkbedaa

/- Contracts (SaMS). -/
namespace Go.Proofs.Ytlndaflhlkbedaa
open Go.RowKit
set_option linter.unusedVariables false

set_option maxHeartbeats 800000 in
set_option maxRecDepth 100000 in
theorem specSameMap_any (A A' : Option Addr) (n c n' c' : Nat) (xs ys : Tr) (w : World) (h : NdIn w w.heap.size A n xs) (hn : n ≤ 1048576) (h' : NdIn w w.heap.size A' n' ys) (hn' : n' ≤ 1048576) :
    Calls Try.prog 42 #[.slice A n c, .slice A' n' c'] w fun e w' => e = .returned (.bool (decide (xs = ys))) ∧ Drawn w w' := by
  have H := Lib.hid h
  have H' := Lib.hid h'
  clear h h'
  have HL := Lib.hid H.out.1
  have HL' := Lib.hid H'.out.1
  by_cases hnn : n = n'
  · go_enter Try.func42, Try.ntmps42
    have Hnn := Lib.hid hnn
    have hne : ((n : Int) != (n' : Int)) = false := by simp [hnn]
    clear hnn
    go_wp2
    go_loopw [5] (fun iv wr => ∃ k : Nat, k ≤ n ∧ iv = .int .i64 k ∧ Tr.same xs ys k ∧ Drawn w wr) (fun i _ => n - (intOf i).toNat)
    case atStart => exact ⟨0, by omega, rfl, fun j hj => absurd hj (by omega), Drawn.refl _⟩
    case round =>
      obtain ⟨k, hk, rfl, hsm, hD⟩ := hrel
      have Hsm := Lib.hid hsm
      clear hsm
      by_cases hlt : k < n
      · obtain ⟨ad, rfl, hb, hl, hd⟩ := (H.out.drawn hD).at_ hlt
        obtain ⟨ad', rfl, hb', hl', hd'⟩ := (H'.out.drawn hD).at_ (k := k) (by rw [← Hnn.out]; exact hlt)
        have hlt' : (k : Int) < (n' : Int) := by rw [← Hnn.out]; omega
        have hk0 : (0 : Int) ≤ (k : Int) := by omega
        by_cases hq1 : Tr.l xs k = Tr.l ys k
        · by_cases hq2 : Tr.d xs k = Tr.d ys k
          · have Hq := Lib.hid (And.intro hq1 hq2)
            have q1 : (Tr.l xs k == Tr.l ys k) = true := by simpa using hq1
            have q2 : (Tr.d xs k == Tr.d ys k) = true := by simpa using hq2
            clear hq1 hq2
            go_wp2
            go_quiet (fail)
            go_wp2
            go_roundw
            case rel => exact ⟨k + 1, by omega, by go_num, fun j hj => by
              rcases Nat.lt_succ_iff_lt_or_eq.1 hj with h' | rfl
              · exact Hsm.out j h'
              · exact Hq.out, hD.drewN _⟩
            case measure => simp [intOf]; omega
          · have Hq := Lib.hid hq2
            have q1 : (Tr.l xs k == Tr.l ys k) = true := by simpa using hq1
            have q2 : (Tr.d xs k == Tr.d ys k) = false := by simpa using hq2
            clear hq1 hq2
            go_wp2
            go_quiet (fail)
            go_wp2
            go_ret
            refine ⟨Kit.ret_bool ?_, hD.drewN _⟩
            symm
            rw [decide_eq_false_iff_not]
            rintro rfl
            exact Hq.out rfl
        · have Hq := Lib.hid hq1
          have q1 : (Tr.l xs k == Tr.l ys k) = false := by simpa using hq1
          clear hq1
          go_wp2
          go_quiet (fail)
          go_wp2
          go_ret
          refine ⟨Kit.ret_bool ?_, hD.drewN _⟩
          symm
          rw [decide_eq_false_iff_not]
          rintro rfl
          exact Hq.out rfl
      · obtain rfl : k = n := by omega
        go_wp2
        go_ret
        refine ⟨Kit.ret_bool ?_, hD⟩
        symm
        rw [decide_eq_true_eq]
        exact Tr.ext (by rw [HL.out, HL'.out]; exact Hnn.out) (fun j hj => Hsm.out j (by rw [← HL.out]; exact hj))
  · have hne : ((n : Int) != (n' : Int)) = true := by simp; omega
    have Hq := Lib.hid (show decide (xs = ys) = false by
      rw [decide_eq_false_iff_not]; rintro rfl; exact hnn (HL.out.symm.trans HL'.out))
    clear hnn
    go_enter Try.func42, Try.ntmps42
    go_wp2
    go_ret
    exact ⟨Kit.ret_bool Hq.out.symm, Drawn.refl _⟩

end Go.Proofs.Ytlndaflhlkbedaa

/- Contracts (NewT). -/
namespace Go.Proofs.Ytlndaflhlkbedaa
open Go.RowKit
set_option linter.unusedVariables false

theorem SD.made {B : Nat} {xs ys : Tr} {k : Co} {w : World} {ga0 ga1 ga2 gb0 gb1 gb2 ca0 ca1 ca2 cb0 cb1 cb2 c0 c1 c2 : Nat} {k0 k1 k2 : Addr} (hx : Tr.ok xs = true) (hy : Tr.ok ys = true)
    (a0 : w.ownsRow B 3 1 (.slice (some ⟨ga0, 0, none⟩) xs.length ca0) xs.length (ints (Tr.lab xs))) (a1 : w.ownsRow B 3 1 (.slice (some ⟨ga1, 0, none⟩) xs.length ca1) xs.length (ints (Zs.up (Tr.lfs xs))))
    (b0 : w.ownsRow B 3 1 (.slice (some ⟨gb0, 0, none⟩) ys.length cb0) ys.length (ints (Tr.lab ys))) (b1 : w.ownsRow B 3 1 (.slice (some ⟨gb1, 0, none⟩) ys.length cb1) ys.length (ints (Zs.up (Tr.lfs ys))))
    (hk : CoIn w B (some k0) (some k1) (some k2) 6 6 36 k) (gm : Nat) (e : TypeId) :
    SD w.heap.size ⟨ga0, 0, none⟩ ⟨ga1, 0, none⟩ ⟨gb0, 0, none⟩ ⟨gb1, 0, none⟩ k0 k1 k2 ca0 ca1 cb0 cb1 c0 c1 c2 xs ys k (w.alloc (.cells #[.slice (some ⟨ga0, 0, none⟩) xs.length ca0, .slice (some ⟨ga1, 0, none⟩) xs.length ca1, .slice (some ⟨ga2, 0, none⟩) (Tr.krs xs).length ca2, .slice (some ⟨gb0, 0, none⟩) ys.length cb0, .slice (some ⟨gb1, 0, none⟩) ys.length cb1, .slice (some ⟨gb2, 0, none⟩) (Tr.krs ys).length cb2, .slice (some k0) 6 c0, .slice (some k1) 6 c1, .slice (some k2) 36 c2, .map (some gm)] e)) := by
  have old : ∀ {p : Addr} {v : Value}, w.cell? p = some v → (w.alloc (.cells #[.slice (some ⟨ga0, 0, none⟩) xs.length ca0, .slice (some ⟨ga1, 0, none⟩) xs.length ca1, .slice (some ⟨ga2, 0, none⟩) (Tr.krs xs).length ca2, .slice (some ⟨gb0, 0, none⟩) ys.length cb0, .slice (some ⟨gb1, 0, none⟩) ys.length cb1, .slice (some ⟨gb2, 0, none⟩) (Tr.krs ys).length cb2, .slice (some k0) 6 c0, .slice (some k1) 6 c1, .slice (some k2) 36 c2, .map (some gm)] e)).cell? p = some v := fun hc => by rw [World.cell?_alloc_lt w _ _ (World.block_lt_of_cell? w _ hc)]; exact hc
  have ln : ∀ {n c gg : Nat} {zs : List Int}, w.ownsRow B 3 1 (.slice (some ⟨gg, 0, none⟩) n c) n (ints zs) → zs.length = n := fun h => by have := h.1; rw [ints_length] at this; omega
  have z0 : ∀ (gg x : Nat), (⟨gg, 0, none⟩ : Addr).add x = ⟨gg, x, none⟩ := fun gg x => by simp [Addr.add]; omega
  exact ⟨cell_made _ _ _ 0 _ rfl, cell_made _ _ _ 1 _ rfl, cell_made _ _ _ 3 _ rfl, cell_made _ _ _ 4 _ rfl, cell_made _ _ _ 6 _ rfl, cell_made _ _ _ 7 _ rfl, cell_made _ _ _ 8 _ rfl,
    fun x hl => old (by rw [z0]; exact own_int a0 (by rw [ln a0]; exact hl)), fun x hl => old (by rw [z0, ← Tr.la_up hx hl]; exact own_int a1 (by rw [ln a1]; exact hl)),
    fun x hl => old (by rw [z0]; exact own_int b0 (by rw [ln b0]; exact hl)), fun x hl => old (by rw [z0, ← Tr.la_up hy hl]; exact own_int b1 (by rw [ln b1]; exact hl)),
    fun u hu => old (hk.1.here hu), fun u hu => old (hk.2.1.here hu), fun u hu => old (hk.2.2.here hu)⟩
set_option maxHeartbeats 800000 in
set_option maxRecDepth 100000 in
theorem newTable_no (A A' : Option Addr) (n n' c c' : Nat) (xs ys : Tr) (K0 K1 K2 : Option Addr) (n0 n1 n2 c0 c1 c2 : Nat) (k : Co) (w : World) (ha : NdIn w w.heap.size A n xs) (hb : NdIn w w.heap.size A' n' ys) (hk : CoIn w w.heap.size K0 K1 K2 n0 n1 n2 k) (hn : n ≤ 1048576) (hn' : n' ≤ 1048576) (h0 : n0 ≤ 1048576) (h1 : n1 ≤ 1048576) (h2 : n2 ≤ 1048576) (hc : n ≤ c) (hc' : n' ≤ c') (hno : DOk xs ys k = false) :
    Calls Try.prog 82 #[.slice A n c, .slice A' n' c', .agg #[.slice K0 n0 c0, .slice K1 n1 c1, .slice K2 n2 c2]] w fun e w' => e = .returned (.pointer none) ∧ Below w.heap.size w w' := by
  obtain ⟨wc, hwc⟩ : ∃ wc, wc = w.alloc (.cells #[.slice K0 n0 c0, .slice K1 n1 c1, .slice K2 n2 c2] 27) := ⟨_, rfl⟩
  have hbc : Below w.heap.size w wc := by rw [hwc]; exact (Below.refl _ _).alloc (Nat.le_refl _) _
  have HQ := Lib.hid (show Box3 wc w.heap.size (.slice K0 n0 c0) (.slice K1 n1 c1) (.slice K2 n2 c2) by rw [hwc]; exact Box3.made _ _ _ _ _)
  have HWC := Lib.hid hwc
  have HA := Lib.hid (ha.to_below hbc)
  have HB := Lib.hid (hb.to_below hbc)
  have HK := Lib.hid (hk.to_below hbc)
  have HBC := Lib.hid hbc
  have HN := Lib.hid hno
  clear ha hb hk hwc hbc hno
  go_enter Try.func82, Try.ntmps82
  go_wp2_with fail
  rw [← HWC.out]
  refine (sidesOf_no _ _ _ _ _ _ xs ys _ _ _ _ _ _ _ _ _ k _ HA.out HB.out HK.out hn hn' h0 h1 h2 hc hc' HN.out).mono ?_
  rintro e w1 ⟨rfl, b1⟩
  have HS := Lib.hid (HBC.out.trans (b1.mono HBC.out.size))
  clear b1
  go_wp2
  go_ret
  exact ⟨rfl, HS.out.alloc HS.out.size _⟩
set_option maxHeartbeats 800000 in
set_option maxRecDepth 100000 in
theorem newTable_yes (A A' : Option Addr) (n n' c c' : Nat) (xs ys : Tr) (K0 K1 K2 : Option Addr) (n0 n1 n2 c0 c1 c2 : Nat) (k : Co) (w : World) (ha : NdIn w w.heap.size A n xs) (hb : NdIn w w.heap.size A' n' ys) (hk : CoIn w w.heap.size K0 K1 K2 n0 n1 n2 k) (hc : n ≤ c) (hc' : n' ≤ c') (hx : Tr.ok xs = true) (hy : Tr.ok ys = true) (ho : Co.ok k = true) :
    Calls Try.prog 82 #[.slice A n c, .slice A' n' c', .agg #[.slice K0 n0 c0, .slice K1 n1 c1, .slice K2 n2 c2]] w fun e w' => ∃ D : D10, e = .returned (.pointer (some ⟨D.g, 0, none⟩)) ∧ PT D xs ys k w' ∧ Below w.heap.size w w' ∧ w.heap.size ≤ D.gm ∧ w.heap.size ≤ D.g := by
  have hln := ha.1
  have hln' := hb.1
  have hkl := hk.len
  have l1 := (Zs.fit_iff.1 (Co.fit3 ho).1).1
  have l2 := (Zs.fit_iff.1 (Co.fit3 ho).2.1).1
  have l3 := (Zs.fit_iff.1 (Co.fit3 ho).2.2).1
  obtain rfl : n0 = 6 := by omega
  obtain rfl : n1 = 6 := by omega
  obtain rfl : n2 = 36 := by omega
  obtain ⟨k0, rfl, hk0⟩ := hk.1.2.1 (by omega)
  obtain ⟨k1, rfl, hk1⟩ := hk.2.1.2.1 (by omega)
  obtain ⟨k2, rfl, hk2⟩ := hk.2.2.2.1 (by omega)
  obtain ⟨x1, x24⟩ := Tr.len24 hx
  obtain ⟨y1, y24⟩ := Tr.len24 hy
  subst hln
  subst hln'
  obtain ⟨wc, hwc⟩ : ∃ wc, wc = w.alloc (.cells #[.slice (some k0) 6 c0, .slice (some k1) 6 c1, .slice (some k2) 36 c2] 27) := ⟨_, rfl⟩
  have hbc : Below w.heap.size w wc := by rw [hwc]; exact (Below.refl _ _).alloc (Nat.le_refl _) _
  have HQ := Lib.hid (show Box3 wc w.heap.size (.slice (some k0) 6 c0) (.slice (some k1) 6 c1) (.slice (some k2) 36 c2) by rw [hwc]; exact Box3.made _ _ _ _ _)
  have HWC := Lib.hid hwc
  have HA := Lib.hid (ha.to_below hbc)
  have HB := Lib.hid (hb.to_below hbc)
  have HK := Lib.hid (hk.to_below hbc)
  have HBC := Lib.hid hbc
  have HX := Lib.hid hx
  have HY := Lib.hid hy
  have HO := Lib.hid ho
  have hmm := @run_makeMap Try.prog
  clear ha hb hk hkl l1 l2 l3 hx hy ho hwc hbc
  go_enter Try.func82, Try.ntmps82
  go_wp2_with fail
  rw [← HWC.out]
  refine (sidesOf_yes _ _ _ _ _ _ xs ys _ _ _ _ _ _ _ _ _ k _ HA.out HB.out HK.out hc hc' HX.out HY.out HO.out).mono ?_
  rintro e w1 ⟨ga0, ga1, ga2, gb0, gb1, gb2, ca0, ca1, ca2, cb0, cb1, cb2, rfl, ra0, ra1, ra2, rb0, rb1, rb2, b1⟩
  have HS := Lib.hid (HBC.out.trans (b1.mono HBC.out.size))
  have BC := Lib.hid b1
  have ROWS := Lib.hid (And.intro ra0 (And.intro ra1 (And.intro rb0 rb1)))
  clear b1 ra0 ra1 ra2 rb0 rb1 rb2
  obtain ⟨w2, hw2⟩ : ∃ w2, w2 = w1.alloc (.cells #[.slice (some ⟨ga0, 0, none⟩) xs.length ca0, .slice (some ⟨ga1, 0, none⟩) xs.length ca1, .slice (some ⟨ga2, 0, none⟩) (Tr.krs xs).length ca2, .slice (some ⟨gb0, 0, none⟩) ys.length cb0, .slice (some ⟨gb1, 0, none⟩) ys.length cb1, .slice (some ⟨gb2, 0, none⟩) (Tr.krs ys).length cb2, .slice (some k0) 6 c0, .slice (some k1) 6 c1, .slice (some k2) 36 c2] 86) := ⟨_, rfl⟩
  have HW2 := Lib.hid hw2
  have B2 := Lib.hid (show Below w1.heap.size w1 w2 by rw [hw2]; exact (Below.refl _ _).alloc (Nat.le_refl _) _)
  have CC := Lib.hid (show ∀ o (_ : o < 9) v, #[.slice (some ⟨ga0, 0, none⟩) xs.length ca0, .slice (some ⟨ga1, 0, none⟩) xs.length ca1, .slice (some ⟨ga2, 0, none⟩) (Tr.krs xs).length ca2, .slice (some ⟨gb0, 0, none⟩) ys.length cb0, .slice (some ⟨gb1, 0, none⟩) ys.length cb1, .slice (some ⟨gb2, 0, none⟩) (Tr.krs ys).length cb2, .slice (some k0) 6 c0, .slice (some k1) 6 c1, .slice (some k2) 36 c2][o]? = some v → w2.cell? ⟨w1.heap.size, o, none⟩ = some v by intro o _ v hv; rw [hw2]; exact cell_made _ _ _ _ _ hv)
  have HS2 := Lib.hid (HS.out.trans (B2.out.mono HS.out.size))
  clear hw2
  have s0 := CC.out 0 (by omega) _ rfl
  have s1 := CC.out 1 (by omega) _ rfl
  have s2 := CC.out 2 (by omega) _ rfl
  have s3 := CC.out 3 (by omega) _ rfl
  have s4 := CC.out 4 (by omega) _ rfl
  have s5 := CC.out 5 (by omega) _ rfl
  have s6 := CC.out 6 (by omega) _ rfl
  have s7 := CC.out 7 (by omega) _ rfl
  have s8 := CC.out 8 (by omega) _ rfl
  go_wp2_with fail
  rw [← HW2.out]
  go_wp2_with fail
  clear s0 s1 s2 s3 s4 s5 s6 s7 s8
  obtain ⟨w3, hw3⟩ : ∃ w3, w3 = w2.alloc (.map #[] 0) := ⟨_, rfl⟩
  have M3 := Lib.hid (show Memo xs ys k w2.heap.size w3 by rw [hw3]; exact Memo.made w2)
  have B3 := Lib.hid (show Below w2.heap.size w2 w3 by rw [hw3]; exact (Below.refl _ _).alloc (Nat.le_refl _) _)
  have Z3 := Lib.hid (show w3.heap.size = w2.heap.size + 1 by rw [hw3]; simp)
  have hB13 : Below w1.heap.size w1 w3 := B2.out.trans (B3.out.mono B2.out.size)
  have hB33 : ∀ o, Below w3.heap.size w3 (w3.alloc o) := fun o => (Below.refl _ _).alloc (Nat.le_refl _) o
  obtain ⟨ra0, ra1, rb0, rb1⟩ := ROWS.out
  have hSD := SD.made (B := wc.heap.size) (ga2 := ga2) (gb2 := gb2) (ca2 := ca2) (cb2 := cb2) (c0 := c0) (c1 := c1) (c2 := c2) HX.out HY.out (own_below ra0 hB13) (own_below ra1 hB13) (own_below rb0 hB13) (own_below rb1 hB13) (HK.out.below (BC.out.trans (hB13.mono BC.out.size))) w2.heap.size 142
  have hPT : PT ⟨w3.heap.size, w2.heap.size, ⟨ga0, 0, none⟩, ⟨ga1, 0, none⟩, ⟨gb0, 0, none⟩, ⟨gb1, 0, none⟩, k0, k1, k2, ca0, ca1, cb0, cb1, c0, c1, c2⟩ xs ys k (w3.alloc (.cells #[.slice (some ⟨ga0, 0, none⟩) xs.length ca0, .slice (some ⟨ga1, 0, none⟩) xs.length ca1, .slice (some ⟨ga2, 0, none⟩) (Tr.krs xs).length ca2, .slice (some ⟨gb0, 0, none⟩) ys.length cb0, .slice (some ⟨gb1, 0, none⟩) ys.length cb1, .slice (some ⟨gb2, 0, none⟩) (Tr.krs ys).length cb2, .slice (some k0) 6 c0, .slice (some k1) 6 c1, .slice (some k2) 36 c2, .map (some w2.heap.size)] 142)) :=
    ⟨hSD, cell_made _ _ _ 9 _ rfl, M3.out.below (hB33 _)⟩
  have HP := Lib.hid hPT
  have HZ := Lib.hid (HS2.out.trans ((B3.out.mono HS2.out.size).trans ((hB33 (.cells #[.slice (some ⟨ga0, 0, none⟩) xs.length ca0, .slice (some ⟨ga1, 0, none⟩) xs.length ca1, .slice (some ⟨ga2, 0, none⟩) (Tr.krs xs).length ca2, .slice (some ⟨gb0, 0, none⟩) ys.length cb0, .slice (some ⟨gb1, 0, none⟩) ys.length cb1, .slice (some ⟨gb2, 0, none⟩) (Tr.krs ys).length cb2, .slice (some k0) 6 c0, .slice (some k1) 6 c1, .slice (some k2) 36 c2, .map (some w2.heap.size)] 142)).mono (Nat.le_trans HS2.out.size B3.out.size))))
  have HS3 := Lib.hid (Nat.le_trans HS2.out.size B3.out.size)
  have e2 : w2.heap.size = w1.heap.size + 1 := by rw [HW2.out]; simp

  clear hSD hPT hB13 hB33 ra0 ra1 rb0 rb1
  go_ret
  rw [← hw3, ← e2]
  refine ⟨⟨w3.heap.size, w2.heap.size, ⟨ga0, 0, none⟩, ⟨ga1, 0, none⟩, ⟨gb0, 0, none⟩, ⟨gb1, 0, none⟩, k0, k1, k2, ca0, ca1, cb0, cb1, c0, c1, c2⟩, ?_, ?_, ?_, HS2.out.size, HS3.out⟩
  · rw [Z3.out]; rfl
  · exact HP.out
  · exact HZ.out

end Go.Proofs.Ytlndaflhlkbedaa

/- Contracts (StepP). -/
namespace Go.Proofs.Ytlndaflhlkbedaa
open Go.RowKit
set_option linter.unusedVariables false

theorem append_pair_at {P : Program} (w : World) {ops : Array Oper} {rest : List Oper} {o : Oper} {a : Act} {Q : Exit → Act → World → Prop} (hgd : o.guard = none) (s x : Operand) (t : TypeId)
    (ho : o.op = .call { callee := .builtin .append, args := #[s, x], argTypes := #[t, t] })
    (base : Nat) (e : TypeId) (i : TypeInfo) (ht : P.underlying t = some (.slice e)) (hi : P.info? e = some i) (hz : i.zero = some (.agg #[.int .i64 0, .int .i64 0]))
    (hsize : i.size = 2) (hby : i.bytes = 16) (v : Value) (n : Nat) (l : Tr) (hs : a.eval s = v) (hown : w.ownsRow base e 2 v n (Tr.cells l)) (hn : n = l.length)
    (b1 b2 : Int) (hx : a.eval x = .slice (some ⟨w.heap.size, 0, none⟩) 1 1)
    (h63 : l.length + 1 ≤ 4398046511104) (hbase : base ≤ w.heap.size)
    (h : ∀ v' w', w'.ownsRow base e 2 v' (l ++ [(b1, b2)]).length (Tr.cells (l ++ [(b1, b2)])) → (w.alloc (.cells #[.int .i64 b1, .int .i64 b2] e)).grownBy w' v.ownBlock → (v'.ownBlock = v.ownBlock ∨ v'.ownBlock = some (w.heap.size + 1)) → wpList P ops Q rest (a.put o.dst v') w') :
    wpList P ops Q (o :: rest) a (w.alloc (.cells #[.int .i64 b1, .int .i64 b2] e)) := by
  subst hn
  refine wpList_append_own_at _ hgd s x t ho base e i (.agg #[.int .i64 0, .int .i64 0]) 2 16 ht hi hz hsize hby rfl (by decide) v l.length (Tr.cells l) hs (hown.alloc _) ⟨w.heap.size, 0, none⟩ 1 1 (Tr.cells [(b1, b2)]) hx (by simp [Tr.cells]) ?_ (Tr.cells_cell _) (by unfold maxLen; omega) (by omega) (by simp; omega) ?_
  · intro j u hj
    have hj2 : j < 2 := by
      have := (List.getElem?_eq_some_iff.1 hj).1
      simpa [Tr.cells] using this
    have : j = 0 ∨ j = 1 := by omega
    rcases this with rfl | rfl <;> (simp [Tr.cells] at hj; subst hj; simp [Addr.add])
  · intro v' w' h2 h3 _ h5
    refine h v' w' ?_ h3 (by simpa using h5)
    rw [Tr.cells_append, List.length_append]
    exact h2
/-- rows of different elements don't lie in one block -/
theorem comNe {w : World} {b1 b2 n1 n2 s1 s2 : Nat} {e1 e2 : TypeId} {v1 v2 : Value} {x1 x2 : List Value} (h1 : w.ownsRow b1 e1 s1 v1 n1 x1) (h2 : w.ownsRow b2 e2 s2 v2 n2 x2) (he : e1 ≠ e2) : v1.ownBlock = none ∨ v1.ownBlock ≠ v2.ownBlock := by
  rcases h1.2 with ⟨rfl, _⟩ | ⟨g, cap, cur, rfl, _, hg, _⟩
  · exact .inl rfl
  · refine .inr fun e => ?_
    rcases h2.2 with ⟨rfl, _⟩ | ⟨g', cap', cur', rfl, _, hg', _⟩
    · cases e
    · simp only [Value.ownBlock, Option.some.injEq] at e
      subst e
      rw [hg] at hg'
      simp only [Option.some.injEq, Obj.cells.injEq] at hg'
      exact he hg'.2.1
theorem Cp.row_take (a : Int) (zs : List Int) {q : Nat} (h : q < zs.length) : Cp.row a (zs.take (q + 1)) = Cp.row a (zs.take q) ++ [(a, zs.getD q 0)] := by
  rw [List.take_add_one, List.getElem?_eq_getElem h, Cp.row, Cp.row, List.map_append, List.getD_eq_getElem?_getD, List.getElem?_eq_getElem h]
  rfl

end Go.Proofs.Ytlndaflhlkbedaa
