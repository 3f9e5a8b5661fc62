/- Texts of one claim laid into one file, in build order: AllS13, C5, OsT. -/
import Derived.Test.YtofpcedpmbecgaaHh15
import Derived.Test.YtofpcedpmbecgaaHh19
import Derived.Test.YtofpcedpmbecgaaHh22
import Derived.Test.YtofpcedpmbecgaaHh23
import Derived.Test.YtofpcedpmbecgaaHh3
import Derived.Laws.Entries
import Derived.Laws.MakeOwn
import Derived.OwnWalk
/- Contracts (AllS13). -/
namespace Go.Proofs.Ytofpcedpmbecgaa
open Go.RowKit
set_option linter.unusedVariables false

set_option maxHeartbeats 3200000 in
set_option maxRecDepth 100000 in
theorem specApplyAll_any (A B : Option Addr) (n c n' c' : Nat) (xs : Tr) (os : List Opr) (w : World) (h : NdIn w w.heap.size A n xs) (h' : OpsIn w w.heap.size B n' os) (hn : n ≤ 1048576) (hn' : n' ≤ 1048576) (hp : ∀ i, (os.getD i Opr.z).p.length ≤ 1048576) :
    Calls Try.prog 29 #[.slice A n c, .slice B n' c'] w (OwnNd3 40 (Oc.allOf xs os) w) := by
  have H := Lib.hid h
  have O := Lib.hid h'
  clear h h'
  have HL := Lib.hid H.out.1
  have OL := Lib.hid O.out.1
  have HP := Lib.hid hp
  clear hp
  rcases hok : Tr.ok xs with _ | _
  · have HR := Lib.hid (show Oc.allOf xs os = ([], 0, 2) by unfold Oc.allOf; rw [hok]; rfl)
    have Hok := Lib.hid hok
    clear hok
    go_enter Try.func29, Try.ntmps29
    go_wp2_with fail
    refine (specTreeOk_any _ _ _ xs _ H.out hn).mono ?_
    rintro e w1 ⟨rfl, hb1⟩
    have HB1 := Lib.hid (show Below w.heap.size w w1 from hb1.toBelow (B := w.heap.size))
    have hs1 := HB1.out.size
    clear hb1
    rw [Hok.out]
    go_wp2
    go_ret3
    exact ⟨_, _, by rw [HR.out]; rfl, by rw [HR.out]; exact World.ownsRow_lit w1 #[] 0 hs1 (Nat.zero_le _) rfl, HB1.out.alloc hs1 _⟩
  have HR := Lib.hid (show Oc.allOf xs os = Oc.from_ xs os 0 by unfold Oc.allOf; rw [if_pos hok, Oc.from_zero])
  have n24 := Tr.len24 hok
  rw [HL.out] at n24
  obtain ⟨ad, rfl, _⟩ := H.out.2.1 (by omega)
  have HOK := Lib.hid hok
  have HFS := Lib.hid (fun (X : Tr) (i : Nat) (hi : i < os.length) => Oc.from_step X os hi)
  have HFE := Lib.hid (fun (X : Tr) => Oc.from_end X os)
  clear hok
  go_enter Try.func29, Try.ntmps29
  go_wp2_with fail
  refine (specTreeOk_any _ _ _ xs _ H.out hn).mono ?_
  rintro e w1 ⟨rfl, hb1⟩
  have HB1 := Lib.hid (show Below w.heap.size w w1 from hb1.toBelow (B := w.heap.size))
  have hs1 := HB1.out.size
  have H1 := Lib.hid (H.out.to_below HB1.out)
  clear hb1
  rw [HOK.out]
  go_wp2_with fail
  refine (l3Copy_ex ad n c xs _ H1.out hn).mono ?_
  rintro e w2 ⟨A2, c2, rfl, ho2, hg2⟩
  have hb2 := (Below.refl w1.heap.size w1).grown hg2 (Nat.le_refl _) (fun _ hk => by cases hk)
  rw [← HL.out] at ho2 ⊢
  have HB2 := Lib.hid (HB1.out.trans (hb2.mono hs1))
  have HO2 := Lib.hid (own_base ho2 hs1)
  clear hb2 ho2
  go_wp2
  go_loopw [7, 8] (fun ov iv wr => ∃ (i : Nat) (X : Tr) (A7 : Option Addr) (c7 : Nat), i ≤ n' ∧ iv = .int .i64 i ∧ ov = .slice A7 X.length c7 ∧ wr.ownsRow w.heap.size 40 2 (.slice A7 X.length c7) X.length (Tr.cells X) ∧ Tr.ok X = true ∧ Oc.from_ xs os 0 = Oc.from_ X os i ∧ Below w.heap.size w wr) (fun _ i _ => n' - (intOf i).toNat)
  case atStart => exact ⟨0, xs, A2, c2, by omega, by go_num, rfl, HO2.out, HOK.out, rfl, HB2.out⟩
  case round =>
    obtain ⟨i, X, A7, c7, hi, rfl, rfl, hown, hokX, hfrom, hB⟩ := hrel
    have HO7 := Lib.hid hown
    have hc7 := own_cap hown
    have HB := Lib.hid hB
    have HFR := Lib.hid hfrom
    have hX24 := Tr.len24 hokX
    have HKX := Lib.hid hokX
    have HN := Lib.hid (NdIn.of_own hown)
    clear hown hB hfrom hokX
    by_cases hlt : i < n'
    · obtain ⟨ad2, P, q, rfl, y0, y1, y2, y3, y4, hI⟩ := (O.out.to_below HB.out).at_ hlt
      have HI := Lib.hid hI
      have HPL := Lib.hid (HP.out i)
      have HST := Lib.hid (HFS.out X i (by rw [OL.out]; exact hlt))
      obtain ⟨o, ho⟩ : ∃ o, o = os.getD i Opr.z := ⟨_, rfl⟩
      rw [← ho] at y0 y1 y2 y3 y4 HI HPL HST
      obtain ⟨K, p, Ka, Kf, Kz⟩ := o
      dsimp only at y0 y1 y2 y3 y4 HI HPL
      clear ho hI
      have b0 : (0 : Int) ≤ (i : Int) := by omega
      have b1 : (i : Int) < (n' : Int) := by omega
      obtain ⟨R, hR⟩ : ∃ R, R = Oc.apply X ⟨K, p, Ka, Kf, Kz⟩ := ⟨_, rfl⟩
      have CC := Lib.hid (show Calls Try.prog 23 #[.slice A7 X.length c7, .agg #[.int .i64 K, .slice P p.length q, .int .i64 Ka, .int .i64 Kf, .int .i64 Kz]] wr (OwnNdC 40 R wr) from by rw [hR]; exact specApplyOp_any A7 X.length c7 X K Ka Kf Kz p P p.length q _ HN.out HI.out (by omega) HPL.out)
      go_wp2_with fail
      refine CC.out.mono ?_
      rintro e w4 ⟨A4, c4, rfl, ho4, hb4⟩
      have HB4 := Lib.hid (HB.out.trans (hb4.mono HB.out.size))
      have HO4 := Lib.hid (own_base ho4 HB.out.size)
      have HO7 := Lib.hid (own_below HO7.out hb4)
      clear ho4 hb4 y0 y1 y2 y3 y4
      by_cases hc : R.2 = 0
      · have q0 : (R.2 == 0) = true := by simpa using hc
        have q2 : (R.2 != 0) = false := by simpa using hc
        have HOX := Lib.hid (show Tr.ok R.1 = true by rw [hR] at hc ⊢; exact Oc.apply_ok HKX.out hc)
        have HST2 := Lib.hid (show Oc.from_ xs os 0 = Oc.from_ R.1 os (i + 1) by rw [HFR.out, HST.out, ← hR, if_pos hc])
        clear hR hc
        go_wp2
        go_roundw
        case rel => exact ⟨i + 1, R.1, A4, c4, by omega, by go_num, rfl, HO4.out, HOX.out, HST2.out, HB4.out⟩
        case measure => simp [intOf]; omega
      · have q0 : (R.2 == 0) = false := by simpa using hc
        have q1 : ¬ R.2 = 0 := hc
        have q2 : (R.2 != 0) = true := by simpa using hc
        have HKP := Lib.hid (show R.1 = X by rw [hR] at hc ⊢; exact Oc.apply_keep HKX.out hc)
        have HST2 := Lib.hid (show Oc.allOf xs os = (X, i, R.2) by rw [HR.out, HFR.out, HST.out, ← hR, if_neg hc])
        clear hR hc
        go_wp2
        go_ret3
        exact ⟨A7, c7, by rw [HST2.out]; rfl, by rw [HST2.out]; exact HO7.out, HB4.out⟩
    · obtain rfl : i = n' := by omega
      have HST2 := Lib.hid (show Oc.allOf xs os = (X, i, 0) by rw [HR.out, HFR.out]; have := HFE.out X; rw [OL.out] at this; exact this)
      go_wp2
      go_ret3
      exact ⟨A7, c7, by rw [HST2.out]; rfl, by rw [HST2.out]; exact HO7.out, HB.out⟩

end Go.Proofs.Ytofpcedpmbecgaa

/- Contracts (C5). -/
namespace Go.Proofs.Ytofpcedpmbecgaa
open Go.RowKit
set_option linter.unusedVariables false

/-- cells of a row of n elements of five cells -/
def C5 (F : Nat → Nat → Value) (n : Nat) : List Value := (List.range (n * 5)).map fun p => F (p / 5) (p % 5)
theorem C5_len (F : Nat → Nat → Value) (n : Nat) : (C5 F n).length = n * 5 := by simp [C5]
theorem C5_get {F : Nat → Nat → Value} {n i j : Nat} (hi : i < n) (hj : j < 5) : (C5 F n)[i * 5 + j]? = some (F i j) := by
  have h : i * 5 + j < n * 5 := by omega
  unfold C5
  rw [List.getElem?_map, List.getElem?_range h]
  show some (F ((i * 5 + j) / 5) ((i * 5 + j) % 5)) = _
  rw [show (i * 5 + j) / 5 = i by omega, show (i * 5 + j) % 5 = j by omega]
theorem C5_ext {F G : Nat → Nat → Value} {n : Nat} (h : ∀ i j, i < n → j < 5 → F i j = G i j) : C5 F n = C5 G n := by
  unfold C5
  refine List.map_congr_left fun p hp => h _ _ ?_ ?_
  · have := List.mem_range.1 hp; omega
  · omega
/-- one cell stored -/
theorem C5_set {F : Nat → Nat → Value} {n i j : Nat} (hj : j < 5) (v : Value) : (C5 F n).set (i * 5 + j) v = C5 (fun a b => if a = i ∧ b = j then v else F a b) n := by
  refine List.ext_getElem (by simp [C5]) fun p h1 h2 => ?_
  rw [C5_len] at h2
  simp only [C5, List.getElem_set, List.getElem_map, List.getElem_range]
  by_cases e : i * 5 + j = p
  · rw [if_pos e, if_pos (by omega)]
  · rw [if_neg e, if_neg (by omega)]
theorem C5_set0 {F : Nat → Nat → Value} {n i : Nat} (v : Value) : (C5 F n).set (i * 5) v = C5 (fun a b => if a = i ∧ b = 0 then v else F a b) n := C5_set (j := 0) (by decide) v
/-- the cells of operations whose paths' values are given -/
def Opr.cell (o : Opr) (u : Value) : Nat → Value
  | 0 => .int .i64 o.k
  | 1 => u
  | 2 => .int .i64 o.a
  | 3 => .int .i64 o.f
  | _ => .int .i64 o.c
def Opr.zcell : Nat → Value
  | 1 => .slice none 0 0
  | _ => .int .i64 0
theorem own_c5 {w : World} {base n g cap : Nat} {e : TypeId} {F : Nat → Nat → Value} (h : w.ownsRow base e 5 (.slice (some ⟨g, 0, none⟩) n cap) n (C5 F n)) {i j : Nat} (hi : i < n) (hj : j < 5) : w.cell? ⟨g, i * 5 + j, none⟩ = some (F i j) := by
  rw [h.cellAt _ (by omega), C5_get hi hj]
theorem made_ops (n : Nat) : (madeCells (Value.agg #[.int .i64 0, .slice none 0 0, .int .i64 0, .int .i64 0, .int .i64 0]).cells (n * 5)).toList = C5 (fun _ j => Opr.zcell j) n := by
  refine List.ext_getElem (by simp [madeCells, C5]) fun p h1 h2 => ?_
  rw [C5_len] at h2
  simp only [C5, List.getElem_map, List.getElem_range]
  have h5 : p % 5 = 0 ∨ p % 5 = 1 ∨ p % 5 = 2 ∨ p % 5 = 3 ∨ p % 5 = 4 := by omega
  rcases h5 with h5 | h5 | h5 | h5 | h5 <;> simp [madeCells, h5, Value.cells, Opr.zcell]
theorem info_op5 : (Try.prog.info? 33).map (fun i => (i.zero, i.size, i.bytes)) = some (some (.agg #[.int .i64 0, .slice none 0 0, .int .i64 0, .int .i64 0, .int .i64 0]), 5, 56) := by kernel_rfl

end Go.Proofs.Ytofpcedpmbecgaa

/- Contracts (OsT). -/
namespace Go.Proofs.Ytofpcedpmbecgaa
open Go.RowKit
set_option linter.unusedVariables false

/-- an own row of operations, each path in a row of its own, in turn of the blocks -/
def OsOwn (w : World) (base : Nat) (v : Value) (n : Nat) (os : List Opr) (G : Nat → Nat) : Prop :=
  w.ownsRow base 33 5 v n (C5 (fun i => (os.getD i Opr.z).cell (.slice (some ⟨G i, 0, none⟩) (os.getD i Opr.z).p.length (os.getD i Opr.z).p.length)) n) ∧ os.length = n ∧
  (∀ i, i < n → w.ownsRow base 3 1 (.slice (some ⟨G i, 0, none⟩) (os.getD i Opr.z).p.length (os.getD i Opr.z).p.length) (os.getD i Opr.z).p.length (ints (os.getD i Opr.z).p)) ∧ (∀ i j, i < j → j < n → G i < G j)
/-- .. the first k made -/
def OsPart (w : World) (base : Nat) (v : Value) (n k : Nat) (os : List Opr) (G : Nat → Nat) : Prop :=
  w.ownsRow base 33 5 v n (C5 (fun i => if i < k then (os.getD i Opr.z).cell (.slice (some ⟨G i, 0, none⟩) (os.getD i Opr.z).p.length (os.getD i Opr.z).p.length) else Opr.zcell) n) ∧
  (∀ i, i < k → w.ownsRow (base + 1) 3 1 (.slice (some ⟨G i, 0, none⟩) (os.getD i Opr.z).p.length (os.getD i Opr.z).p.length) (os.getD i Opr.z).p.length (ints (os.getD i Opr.z).p)) ∧ (∀ i, i < k → base < G i ∧ G i < w.heap.size) ∧ (∀ i j, i < j → j < k → G i < G j)
set_option maxHeartbeats 3200000 in
set_option maxRecDepth 100000 in
theorem toOpS_any (A : Option Addr) (n c : Nat) (os : List Opr) (w : World) (h : OpsIn w w.heap.size A n os) (hn : n ≤ 1048576) (hp : ∀ i, (os.getD i Opr.z).p.length ≤ 1048576) :
    Calls Try.prog 49 #[.slice A n c] w fun e w' => ∃ G, e = .returned (.slice (some ⟨w.heap.size, 0, none⟩) n n) ∧ OsOwn w' w.heap.size (.slice (some ⟨w.heap.size, 0, none⟩) n n) n os G ∧ Below w.heap.size w w' := by
  have H := Lib.hid h
  have HP := Lib.hid hp
  have HL := Lib.hid h.1
  clear h hp
  obtain ⟨i0, hi0, hz0, hz1, hz2⟩ := info_parts info_op5
  go_enter Try.func49, Try.ntmps49
  go_wp2_with (at_make; refine wpList_make_full _ rfl _ _ 42 rfl w.heap.size 33 i0 (.agg #[.int .i64 0, .slice none 0 0, .int .i64 0, .int .i64 0, .int .i64 0]) 5 Try.underlying42 hi0 hz0 hz1 _ _ _ _ n rfl rfl rfl rfl (by rw [hz2]; omega) (by unfold maxLen; omega) (Nat.le_refl _) ?_; intro w1 hown1 hgrow1)
  have hb1 : Below w.heap.size w w1 := (Below.refl _ w).grown hgrow1 (Nat.le_refl _) (fun _ h => by cases h)
  rw [made_ops] at hown1
  have HO1 := Lib.hid hown1
  have HB1 := Lib.hid hb1
  clear hown1 hgrow1 hb1
  go_loopw [4] (fun iv wr => ∃ (k : Nat) (G : Nat → Nat), k ≤ n ∧ iv = .int .i64 k ∧ OsPart wr w.heap.size (.slice (some ⟨w.heap.size, 0, none⟩) n n) n k os G ∧ Below w.heap.size w wr) (fun i _ => n - (intOf i).toNat)
  case atStart => exact ⟨0, fun _ => 0, by omega, by go_num, ⟨by simpa using HO1.out, fun i hi => absurd hi (Nat.not_lt_zero i), fun i hi => absurd hi (Nat.not_lt_zero i), fun i j _ hj => absurd hj (Nat.not_lt_zero j)⟩, HB1.out⟩
  case round =>
    obtain ⟨k, G, hk, rfl, hown, hB⟩ := hrel
    have HB := Lib.hid hB
    have HO := Lib.hid (H.out.to_below hB)
    have HW := Lib.hid hown
    clear hown hB
    by_cases hlt : k < n
    · obtain ⟨ad, P, pq, rfl, y0, y1, y2, y3, y4, hI⟩ := HO.out.at_ hlt
      have HPi := Lib.hid (HP.out k)
      have HI := Lib.hid hI
      obtain ⟨o, ho⟩ : ∃ o, o = os.getD k Opr.z := ⟨_, rfl⟩
      rw [← ho] at y0 y1 y2 y3 y4 HPi HI
      have Ho := Lib.hid ho
      clear hI ho
      have b0 : (0 : Int) ≤ (k : Int) := by omega
      have b1 : (k : Int) < (n : Int) := by omega
      go_wp2_with (go_loud (go_at_call 45; refine (toOp_any _ _ _ _ o.p _ _ _ _ HI.out HPi.out).mono ?_; rintro e w2 ⟨g, rfl, ho2, hb2, hg2⟩; have HO2 := Lib.hid ho2; have HB2 := Lib.hid hb2; have HG2 := Lib.hid hg2; clear ho2 hb2 hg2; have hown2 := own_below HW.out.1 HB2.out; have d0 := own_c5 hown2 hlt (show 0 < 5 by decide); have d1 := own_c5 hown2 hlt (show 1 < 5 by decide); have d2 := own_c5 hown2 hlt (show 2 < 5 by decide); have d3 := own_c5 hown2 hlt (show 3 < 5 by decide); have d4 := own_c5 hown2 hlt (show 4 < 5 by decide); rw [if_neg (Nat.lt_irrefl k)] at d0 d1 d2 d3 d4; have f0 := hown2.frozenAt (k * 5); have f1 := hown2.frozenAt (k * 5 + 1); have f2 := hown2.frozenAt (k * 5 + 2); have f3 := hown2.frozenAt (k * 5 + 3); have f4 := hown2.frozenAt (k * 5 + 4); have d0 : w2.cell? ⟨w.heap.size, k * 5, none⟩ = some (.int .i64 0) := d0; have d1 : w2.cell? ⟨w.heap.size, k * 5 + 1, none⟩ = some (.slice none 0 0) := d1; have d2 : w2.cell? ⟨w.heap.size, k * 5 + 2, none⟩ = some (.int .i64 0) := d2; have d3 : w2.cell? ⟨w.heap.size, k * 5 + 3, none⟩ = some (.int .i64 0) := d3; have d4 : w2.cell? ⟨w.heap.size, k * 5 + 4, none⟩ = some (.int .i64 0) := d4; have D := Lib.hid (And.intro d1 (And.intro d2 (And.intro d3 (And.intro d4 (And.intro f1 (And.intro f2 (And.intro f3 f4)))))))))
      obtain ⟨d1, d2, d3, d4, f1, f2, f3, f4⟩ := D.out
      have no (i j : Nat) (hij : i ≠ j) : (⟨w.heap.size, k * 5 + i, none⟩ : Addr) ≠ ⟨w.heap.size, k * 5 + j, none⟩ := fun e => by injection e with _ e; omega
      have no0 (j : Nat) (hj : 0 ≠ j) : (⟨w.heap.size, k * 5, none⟩ : Addr) ≠ ⟨w.heap.size, k * 5 + j, none⟩ := fun e => by injection e with _ e; omega
      go_roundw
      case rel =>
        have hsw := HB.out.size
        have hlw := (HW.out.1.lt w.heap.size rfl).2
        have hg2 := HG2.out
        have hgl := (HO2.out.lt g rfl).2
        have hs2 := HB2.out.size
        have st (wv : World) (b : Nat) (P : Value) (m2 : Nat) (zs : List Int) (off : Nat) (u : Value) (hb : P.ownBlock = none ∨ P.ownBlock ≠ some w.heap.size) (h : wv.ownsRow b 3 1 P m2 (ints zs)) : (wv.setCell ⟨w.heap.size, off, none⟩ u).ownsRow b 3 1 P m2 (ints zs) := own_apart h (Kit.grown_set _ _ _ _) hb
        have st5 (b : Nat) (g' : Nat) (m2 : Nat) (zs : List Int) (hg : w.heap.size < g') (h : w2.ownsRow b 3 1 (.slice (some ⟨g', 0, none⟩) m2 m2) m2 (ints zs)) : (((((w2.setCell ⟨w.heap.size, k * 5, none⟩ (.int .i64 o.k)).setCell ⟨w.heap.size, k * 5 + 1, none⟩ (.slice (some ⟨g, 0, none⟩) o.p.length o.p.length)).setCell ⟨w.heap.size, k * 5 + 2, none⟩ (.int .i64 o.a)).setCell ⟨w.heap.size, k * 5 + 3, none⟩ (.int .i64 o.f)).setCell ⟨w.heap.size, k * 5 + 4, none⟩ (.int .i64 o.c)).ownsRow b 3 1 (.slice (some ⟨g', 0, none⟩) m2 m2) m2 (ints zs) := by
          have hne : (Value.slice (some (⟨g', 0, none⟩ : Addr)) m2 m2).ownBlock = none ∨ (Value.slice (some (⟨g', 0, none⟩ : Addr)) m2 m2).ownBlock ≠ some w.heap.size := .inr fun e => by simp only [Value.ownBlock] at e; injection e with e; omega
          exact st _ _ _ _ _ _ _ hne (st _ _ _ _ _ _ _ hne (st _ _ _ _ _ _ _ hne (st _ _ _ _ _ _ _ hne (st _ _ _ _ _ _ _ hne h))))
        obtain ⟨q1, q2, q3, q4⟩ := HW.out
        refine ⟨k + 1, fun i => if i = k then g else G i, by omega, by go_num, ⟨?_, fun i hi => ?_, fun i hi => ?_, fun i j hij hj => ?_⟩, ?_⟩
        · have r := (own_below q1 HB2.out)
          have r5 := ((((((r.stored (k * 5) (.int .i64 o.k)).1.stored (k * 5 + 1) (.slice (some ⟨g, 0, none⟩) o.p.length o.p.length)).1.stored (k * 5 + 2) (.int .i64 o.a)).1.stored (k * 5 + 3) (.int .i64 o.f)).1.stored (k * 5 + 4) (.int .i64 o.c)).1)
          rw [C5_set0, C5_set (j := 1) (by decide), C5_set (j := 2) (by decide), C5_set (j := 3) (by decide), C5_set (j := 4) (by decide)] at r5
          refine Eq.mp ?_ r5
          congr 1
          refine C5_ext fun i j hi hj => ?_
          by_cases e : i = k
          · subst e
            rw [← Ho.out]
            rcases (show j = 0 ∨ j = 1 ∨ j = 2 ∨ j = 3 ∨ j = 4 by omega) with rfl | rfl | rfl | rfl | rfl <;> simp [Opr.cell]
          · simp [e, show i < k + 1 ↔ i < k by omega]
        · by_cases e : i = k
          · subst e
            simp only [if_pos]
            rw [← Ho.out]
            exact st5 _ _ _ _ (by omega) (own_base HO2.out (by omega))
          · simp only [if_neg e]
            exact st5 _ _ _ _ (q3 i (by omega)).1 (own_below (q2 i (by omega)) HB2.out)
        · by_cases e : i = k
          · subst e
            simp only [if_pos]
            exact ⟨by omega, by simpa using hgl⟩
          · simp only [if_neg e]
            have := q3 i (by omega)
            exact ⟨this.1, by simp; omega⟩
        · by_cases e : j = k
          · subst e
            have := q3 i (by omega)
            simp only [if_neg (show ¬ i = j by omega), if_pos]
            omega
          · simp only [if_neg e, if_neg (show ¬ i = k by omega)]
            exact q4 i j hij (by omega)
        · have hb := HB.out.trans (HB2.out.mono hsw)
          exact ((((hb.setCell (p := ⟨w.heap.size, k * 5, none⟩) (Nat.le_refl _) _).setCell (p := ⟨w.heap.size, k * 5 + 1, none⟩) (Nat.le_refl _) _).setCell (p := ⟨w.heap.size, k * 5 + 2, none⟩) (Nat.le_refl _) _).setCell (p := ⟨w.heap.size, k * 5 + 3, none⟩) (Nat.le_refl _) _).setCell (p := ⟨w.heap.size, k * 5 + 4, none⟩) (Nat.le_refl _) _
      case measure => simp [intOf]; omega
    · obtain rfl : k = n := by omega
      go_wp2
      go_ret
      refine ⟨G, rfl, ⟨?_, HL.out, fun i hi => own_base (HW.out.2.1 i hi) (Nat.le_succ _), HW.out.2.2.2⟩, HB.out⟩
      rw [C5_ext (G := fun i => if i < k then (os.getD i Opr.z).cell (.slice (some ⟨G i, 0, none⟩) (os.getD i Opr.z).p.length (os.getD i Opr.z).p.length) else Opr.zcell) (fun i j hi _ => by rw [if_pos hi])]
      exact HW.out.1

end Go.Proofs.Ytofpcedpmbecgaa
