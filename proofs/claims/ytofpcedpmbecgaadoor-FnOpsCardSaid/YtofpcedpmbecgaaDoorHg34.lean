/- Texts of one claim laid into one file, in build order: RepI, CoSm, HarB, UnitI, NdSm. -/
import Derived.Test.YtofpcedpmbecgaaDoorHg1
import Derived.Test.YtofpcedpmbecgaaDoorHg10
import Derived.Test.YtofpcedpmbecgaaDoorHg12
import Derived.Test.YtofpcedpmbecgaaDoorHg3
import Derived.Test.YtofpcedpmbecgaaDoorHg4
import Derived.Test.YtofpcedpmbecgaaDoorHg7
import Derived.Test.YtofpcedpmbecgaaDoorHg8
import Derived.Deep.RegionHeld3
import Derived.Laws.CopyOwn
import Derived.Outline
import Derived.StillTailTactics
import Derived.Test.YtofpcedpmbecgaaDoorRows
/- Contracts (RepI). -/
namespace Go.Proofs.YtofpcedpmbecgaaDoor
open Go.RowKit
set_option linter.unusedVariables false

def Rep.row (m k : Nat) (z : Int) : List Int := List.replicate k z ++ List.replicate (m - k) 0
theorem Rep.row_length (m k : Nat) (z : Int) (h : k ≤ m) : (Rep.row m k z).length = m := by simp [Rep.row]; omega
theorem Rep.row_zero (m : Nat) (z : Int) : Rep.row m 0 z = List.replicate m 0 := by simp [Rep.row]
theorem Rep.row_all (m : Nat) (z : Int) : Rep.row m m z = List.replicate m z := by simp [Rep.row]
theorem Rep.splice (m k c : Nat) (z : Int) (h : k + c ≤ m) : Go.splice (ints (Rep.row m k z)) k (ints (List.replicate c z)) = ints (Rep.row m (k + c) z) := by
  have h1 : (ints (Rep.row m k z)).take k = ints (List.replicate k z) := by
    simp only [Rep.row, ints_append]
    rw [List.take_append_of_le_length (by simp [ints])]
    exact List.take_of_length_le (by simp [ints])
  have h2 : (ints (Rep.row m k z)).drop (k + c) = ints (List.replicate (m - (k + c)) 0) := by
    simp only [Rep.row, ints_append]
    rw [List.drop_append]
    simp [ints]
    omega
  have h3 : (ints (List.replicate c z)).length = c := by simp [ints]
  unfold Go.splice
  rw [h3, h1, h2, ← ints_append, ← ints_append, Rep.row, ← List.append_assoc, List.replicate_append_replicate]
theorem own_full {w : World} {base n g : Nat} {e : TypeId} {ys : List Value} (h : w.ownsRow base e 1 (.slice (some ⟨g, 0, none⟩) n n) n ys) : w.heap[g]? = some (.cells ys.toArray e (0, 0)) := by
  rcases h.2 with ⟨h1, _⟩ | ⟨g', cap, cur, hv, _, hh, _, _, hs, ht⟩
  · cases h1
  · injection hv with hA hn hc
    injection hA with hA
    injection hA with hg
    subst hg
    subst hc
    have : cur.toList = ys := by rw [← ht]; exact (List.take_of_length_le (by simp; omega)).symm
    rw [hh, ← this]
theorem own_of_heap {w : World} {base m g : Nat} {e : TypeId} {zs : List Int} (hg : w.heap[g]? = some (.cells (ints zs).toArray e (0, 0))) (hb : base ≤ g) (hl : zs.length = m) (hm : m ≤ maxLen) : w.ownsRow base e 1 (.slice (some ⟨g, 0, none⟩) m m) m (ints zs) := by
  refine ⟨by rw [ints_length, hl]; omega, .inr ⟨g, m, (ints zs).toArray, rfl, hb, hg, Nat.le_refl _, hm, by simp [ints_length, hl], ?_⟩⟩
  rw [List.take_of_length_le (by simp [ints_length, hl])]
theorem Rep.src {w : World} {g m k d j : Nat} {z : Int} {v : Value} (hg : w.heap[g]? = some (.cells (ints (Rep.row m k z)).toArray 3 (0, 0))) (hkm : k ≤ m) (hm : m ≤ 1000) (hdk : d ≤ k) (hj : (ints (List.replicate d z))[j]? = some v) : w.cell? ((⟨g, 0, none⟩ : Addr).add j) = some v := by
  have hjd := (List.getElem?_eq_some_iff.1 hj).1
  rw [ints_length, List.length_replicate] at hjd
  rw [ints_at _ _ (by rw [List.length_replicate]; exact hjd)] at hj
  have h1 := own_of_heap hg (Nat.le_refl _) (Rep.row_length m k z hkm) (by unfold maxLen; omega)
  rw [(IntIn.of_own h1).here (k := j) (by omega), ← hj]
  have h2 : Zs.at (Rep.row m k z) j = z := by simp [Zs.at, Rep.row, List.getD_eq_getElem?_getD, List.getElem?_append, show j < k by omega]
  have h3 : Zs.at (List.replicate d z) j = z := by simp [Zs.at, List.getD_eq_getElem?_getD, hjd]
  rw [h2, h3]
set_option maxHeartbeats 800000 in
set_option maxRecDepth 100000 in
theorem mul_6 (w : World) : Calls Tryd.prog 53 #[.int .u64 1, .int .u64 6] w fun e w' => e = .returned (.tuple #[.int .u64 0, .int .u64 6]) ∧ w = w' := by
  go_enter Tryd.func53, Tryd.ntmps53
  go_wp2
  go_ret2
  exact ⟨rfl, rfl⟩
set_option maxHeartbeats 800000 in
set_option maxRecDepth 100000 in
theorem mul_36 (w : World) : Calls Tryd.prog 53 #[.int .u64 1, .int .u64 36] w fun e w' => e = .returned (.tuple #[.int .u64 0, .int .u64 36]) ∧ w = w' := by
  go_enter Tryd.func53, Tryd.ntmps53
  go_wp2
  go_ret2
  exact ⟨rfl, rfl⟩
theorem info_intR : (Tryd.prog.info? 3).map (fun i => (i.zero, i.size, i.bytes)) = some (some (.int .i64 0), 1, 8) := by kernel_rfl
theorem size_intR : (Tryd.prog.info? 3).map (·.size) = some 1 := by kernel_rfl
set_option maxHeartbeats 1600000 in
set_option maxRecDepth 100000 in
theorem repeat_one (A : Option Addr) (c m : Nat) (z : Int) (w : World) (h : IntIn w w.heap.size A 1 [z]) (hm0 : 1 ≤ m) (hm : m ≤ 1000)
    (hmul : ∀ w, Calls Tryd.prog 53 #[.int .u64 1, .int .u64 m] w fun e w' => e = .returned (.tuple #[.int .u64 0, .int .u64 m]) ∧ w = w') :
    Calls Tryd.prog 34 #[.slice A 1 c, .int .i64 m] w fun e w' => e = .returned (.slice (some ⟨w.heap.size, 0, none⟩) m m) ∧ w'.ownsRow w.heap.size 3 1 (.slice (some ⟨w.heap.size, 0, none⟩) m m) m (ints (List.replicate m z)) ∧ Below w.heap.size w w' := by
  have H := Lib.hid h
  obtain ⟨ad, rfl, _, hz⟩ := h.at_ (k := 0) (by omega)
  have HZ := Lib.hid hz
  clear h hz
  have HM := Lib.hid hmul
  clear hmul
  obtain ⟨i0, hi, hz0, hz1, hz2⟩ := info_parts info_intR
  have Hi := Lib.hid hi
  clear hi
  obtain ⟨g, hg⟩ : ∃ g, g = w.heap.size := ⟨_, rfl⟩
  have q1 : decide ((m : Int) < 0) = false := by simp
  go_enter Tryd.func34, Tryd.ntmps34
  go_wp2_with fail
  refine (HM.out _).mono ?_
  rintro e w' ⟨rfl, rfl⟩
  have q2 : decide (9223372036854775807 < (m : Int)) = false := by simp; omega
  obtain ⟨C1, hC1⟩ : ∃ C, C = ints (List.replicate 1 z) := ⟨_, rfl⟩
  have hl1 : C1.length = 1 := by rw [hC1]; simp [ints]
  have HC1 := Lib.hid hC1
  clear hC1
  go_wp2_with (first | (at_make; go_loud (refine wpList_make_full _ rfl _ _ 25 rfl w.heap.size 3 i0 (.int .i64 0) 1 Tryd.underlying25 Hi.out hz0 hz1 _ _ _ _ m rfl rfl rfl rfl (by rw [hz2]; omega) (by unfold maxLen; omega) (Nat.le_refl _) ?_); intro w2 hown2 hgrow2; have hb2 : Below w.heap.size w w2 := (Below.refl _ w).grown hgrow2 (Nat.le_refl _) (fun _ h => by cases h); rw [made_zeros 0 m, ← Rep.row_zero m z] at hown2; have HG := Lib.hid (own_full hown2); have HB := Lib.hid hb2; clear hown2 hgrow2 hb2) | (refine wpList_copy_splice rfl _ _ 25 25 rfl 3 Tryd.underlying25 size_intR _ _ _ _ _ _ rfl rfl w.heap.size 0 (ints (Rep.row m 0 z)) 3 HG.out C1 (by rw [hl1]; exact (Nat.min_eq_left hm0).symm) (fun _ => ⟨rfl, _, rfl, fun j v hj => (H.out.below HB.out).cells_at j v (by rw [HC1.out] at hj; exact hj)⟩) (by rw [hl1, ints_length, Rep.row_length m 0 z (Nat.zero_le _)]; omega) (by rw [HC1.out]; exact ints_cell _) w.heap.size w HB.out (Nat.le_refl _) ?_; intro w3 hg3 hb3; rw [HC1.out, Rep.splice m 0 1 z (by omega)] at hg3; have HG3 := hg3; have HB3 := Lib.hid hb3; clear hg3 hb3))
  clear HG HB
  go_loopw [8] (fun nv wr => ∃ k : Nat, 1 ≤ k ∧ k ≤ m ∧ nv = .int .i64 k ∧ Hid (wr.heap[w.heap.size]? = some (.cells (ints (Rep.row m k z)).toArray 3 (0, 0))) ∧ Below w.heap.size w wr) (fun n _ => m - (intOf n).toNat)
  case atStart => exact ⟨1, Nat.le_refl _, hm0, rfl, HG3, HB3.out⟩
  case round =>
    obtain ⟨k, hk1, hkm, rfl, HG, hB⟩ := hrel
    have HB := Lib.hid hB
    clear hB HG3 HB3
    by_cases hlt : k < m
    · obtain ⟨d, hd⟩ : ∃ d, d = min k (m - k) := ⟨_, rfl⟩
      obtain ⟨C, hC⟩ : ∃ C, C = ints (List.replicate d z) := ⟨_, rfl⟩
      have hl : C.length = d := by rw [hC]; simp [ints]
      have HC := Lib.hid hC
      have HD := Lib.hid hd
      have hdk : k + d ≤ m := by omega
      have hd1 : 1 ≤ d := by omega
      clear hC hd
      have HS := Lib.hid (show IntKind.i64.wrap ((k : Int) + (d : Int)) = ((k + d : Nat) : Int) by rw [Kit.w64 (by omega) (by omega)]; omega)
      have k1 : (k : Int) < (m : Int) := by omega
      have hmk : ¬ m = k := by omega
      have k2 : (0 : Int) ≤ (k : Int) := by omega
      go_wp2
      go_region_held3 (fun _ => True) (trivial) (((refine step_copy_splice rfl _ _ 25 25 rfl 3 Tryd.underlying25 size_intR _ _ _ _ _ _ rfl rfl w.heap.size k (ints (Rep.row m k z)) 3 HG.out C (by rw [hl, HD.out]) (fun _ => ⟨by (first | rfl | (rw [if_neg hmk])), _, rfl, fun j v hj => Rep.src (d := d) (w := wr) HG.out hkm hm (by rw [HD.out]; exact Nat.min_le_left _ _) (by rw [HC.out] at hj; exact hj)⟩) (by rw [hl, ints_length, Rep.row_length m k z hkm]; exact hdk) (by rw [HC.out]; exact ints_cell _) w.heap.size w HB.out.drew (Nat.le_refl _) ?_); intro w4 hg4 hb4))
      go_wp2
      rw [HC.out, Rep.splice m k d z hdk] at hg4
      rw [HS.out]
      go_roundw
      case rel => exact ⟨k + d, by omega, hdk, rfl, hg4, hb4⟩
      case measure => simp [intOf]; omega
    · obtain rfl : k = m := by omega
      go_wp2
      go_ret
      refine ⟨rfl, ?_, HB.out⟩
      have := own_of_heap HG.out (Nat.le_refl _) (Rep.row_length k k z (Nat.le_refl _)) (by unfold maxLen; omega)
      rw [Rep.row_all] at this
      exact this

end Go.Proofs.YtofpcedpmbecgaaDoor

/- Contracts (CoSm). -/
namespace Go.Proofs.YtofpcedpmbecgaaDoor
open Go.RowKit
set_option linter.unusedVariables false

def Co.same (a b : Co) : Bool := decide (a.d = b.d) && decide (a.i = b.i) && decide (a.r = b.r)

end Go.Proofs.YtofpcedpmbecgaaDoor

/- Contracts (HarB). -/
namespace Go.Proofs.YtofpcedpmbecgaaDoor
open Go.RowKit
set_option linter.unusedVariables false

/-- three rows of the call's own, apart -/
def OwnC (w : World) (base : Nat) (A0 A1 A2 : Option Addr) (c0 c1 c2 : Nat) (k : Co) : Prop :=
  w.ownsRow base 3 1 (.slice A0 k.d.length c0) k.d.length (ints k.d) ∧ w.ownsRow base 3 1 (.slice A1 k.i.length c1) k.i.length (ints k.i) ∧ w.ownsRow base 3 1 (.slice A2 k.r.length c2) k.r.length (ints k.r) ∧
  Apart (.slice A0 k.d.length c0) (.slice A1 k.i.length c1) ∧ Apart (.slice A0 k.d.length c0) (.slice A2 k.r.length c2) ∧ Apart (.slice A1 k.i.length c1) (.slice A2 k.r.length c2)
theorem OwnC.below {w w' : World} {base : Nat} {A0 A1 A2 : Option Addr} {c0 c1 c2 : Nat} {k : Co} (h : OwnC w base A0 A1 A2 c0 c1 c2 k) (hb : Below w.heap.size w w') : OwnC w' base A0 A1 A2 c0 c1 c2 k :=
  ⟨own_below h.1 hb, own_below h.2.1 hb, own_below h.2.2.1 hb, h.2.2.2⟩
/-- the old blocks but those of three rows stand as they did -/
def Only3 (v0 v1 v2 : Value) (w w' : World) : Prop := ∀ i, i < w.heap.size → v0.ownBlock ≠ some i → v1.ownBlock ≠ some i → v2.ownBlock ≠ some i → w'.heap[i]? = w.heap[i]?
theorem OwnC.lt {w : World} {base : Nat} {A0 A1 A2 : Option Addr} {c0 c1 c2 : Nat} {k : Co} (h : OwnC w base A0 A1 A2 c0 c1 c2 k) {s : Nat} (hs : w.heap.size ≤ s) :
    (Value.slice A0 k.d.length c0).ownBlock ≠ some s ∧ (Value.slice A1 k.i.length c1).ownBlock ≠ some s ∧ (Value.slice A2 k.r.length c2).ownBlock ≠ some s :=
  ⟨fun e => by have := (h.1.lt s e).2; omega, fun e => by have := (h.2.1.lt s e).2; omega, fun e => by have := (h.2.2.1.lt s e).2; omega⟩
theorem Box3.only {w w' : World} {g : Nat} {u0 u1 u2 v0 v1 v2 : Value} (h : Box3 w g v0 v1 v2) (ho : Only3 u0 u1 u2 w w') (hl : g < w.heap.size) (hn : u0.ownBlock ≠ some g ∧ u1.ownBlock ≠ some g ∧ u2.ownBlock ≠ some g) : Box3 w' g v0 v1 v2 := by
  have e := ho g hl hn.1 hn.2.1 hn.2.2
  exact ⟨(World.cell?_of_block (a := ⟨g, 0, none⟩) e).trans h.1, (World.cell?_of_block (a := ⟨g, 1, none⟩) e).trans h.2.1, (World.cell?_of_block (a := ⟨g, 2, none⟩) e).trans h.2.2⟩
theorem Box3.grown {w w' : World} {g : Nat} {r : Option Nat} {v0 v1 v2 : Value} (h : Box3 w g v0 v1 v2) (hg : w.grownBy w' r) (hl : g < w.heap.size) (hr : ∀ b, r = some b → b ≠ g) : Box3 w' g v0 v1 v2 := by
  have e := hg.block g hl (fun e => hr g e.symm rfl)
  exact ⟨(World.cell?_of_block (a := ⟨g, 0, none⟩) e).trans h.1, (World.cell?_of_block (a := ⟨g, 1, none⟩) e).trans h.2.1, (World.cell?_of_block (a := ⟨g, 2, none⟩) e).trans h.2.2⟩

end Go.Proofs.YtofpcedpmbecgaaDoor

/- Contracts (UnitI). -/
namespace Go.Proofs.YtofpcedpmbecgaaDoor
open Go.RowKit
set_option linter.unusedVariables false

def Co.udiag (a : Nat) : List Int := (List.range 36).map fun p => if p / 6 = p % 6 ∧ p / 6 < a then 0 else 1
theorem Co.udiag_zero : Co.udiag 0 = List.replicate 36 1 := by decide
theorem Co.udiag_all : Co.udiag 6 = Co.urel 36 := by decide
theorem Co.udiag_length (a : Nat) : (Co.udiag a).length = 36 := by simp [Co.udiag]
theorem Co.udiag_set : ∀ a, a < 6 → (Co.udiag a).set (a * 6 + a) 0 = Co.udiag (a + 1) := by decide
/-- what a loop that writes into one row finds at its head -/
def UnitG (w0 : World) (s g : Nat) (v0 v1 v2 : Value) (w : World) : Prop :=
  Box3 w s (.slice none 0 0) (.slice none 0 0) (.slice none 0 0) ∧ (∀ off, w.frozen? ⟨s, off, none⟩ = false) ∧ Box3 w g v0 v1 v2 ∧ w.ownsRow w0.heap.size 3 1 v0 6 (ints (List.replicate 6 1)) ∧ w.ownsRow w0.heap.size 3 1 v1 6 (ints (List.replicate 6 1)) ∧
  Apart v0 v1 ∧ Apart v0 v2 ∧ Apart v1 v2 ∧ Below w0.heap.size w0 w ∧ s < w.heap.size ∧ g < w.heap.size ∧ (∀ b, v2.ownBlock = some b → b ≠ s ∧ b ≠ g ∧ w0.heap.size ≤ b) ∧ w0.heap.size ≤ s ∧ ¬ s = g
theorem free_grown {w w' : World} {g : Nat} {r : Option Nat} (hg : w.grownBy w' r) (hl : g < w.heap.size) (hr : ∀ b, r = some b → b ≠ g) (h : ∀ off, w.frozen? ⟨g, off, none⟩ = false) (off : Nat) : w'.frozen? ⟨g, off, none⟩ = false := by
  have e := hg.block g hl (fun e => hr g e.symm rfl)
  have := h off
  unfold World.frozen? at this ⊢
  simp only [e]
  exact this
theorem UnitG.kept {w0 w w' : World} {s g : Nat} {v0 v1 v2 : Value} (h : UnitG w0 s g v0 v1 v2 w) (hg : w.grownBy w' v2.ownBlock) : UnitG w0 s g v0 v1 v2 w' := by
  obtain ⟨hx, hf, hy, o0, o1, a01, a02, a12, hB, hs, hgl, hb, h0, hsg⟩ := h
  refine ⟨hx.grown hg hs (fun b e => (hb b e).1), free_grown hg hs (fun b e => (hb b e).1) hf, hy.grown hg hgl (fun b e => (hb b e).2.1), World.ownsRow.kept o0 hg a02, World.ownsRow.kept o1 hg a12, a01, a02, a12, hB.grown hg hB.size (fun b e => (hb b e).2.2), Nat.lt_of_lt_of_le hs hg.size, Nat.lt_of_lt_of_le hgl hg.size, hb, h0, hsg⟩
theorem UnitG.drewN {w0 w : World} {s g : Nat} {v0 v1 v2 : Value} (h : UnitG w0 s g v0 v1 v2 w) (n : Nat) : UnitG w0 s g v0 v1 v2 (w.drewN n) := h.kept (Kit.grown_drewN w n _)
set_option maxHeartbeats 1600000 in
set_option maxRecDepth 100000 in
theorem implUnitCost_any (w : World) : Calls Tryd.prog 13 #[] w (OwnCo Co.unit w) := by
  obtain ⟨wz, hwz⟩ : ∃ wz, wz = (w.alloc (.cells #[.slice none 0 0, .slice none 0 0, .slice none 0 0] 37)).alloc (.cells #[.int .i64 1] 3) := ⟨_, rfl⟩
  have hsz : wz.heap.size = w.heap.size + 2 := by rw [hwz]; simp
  have HIN := Lib.hid (show IntIn wz wz.heap.size (some ⟨w.heap.size + 1, 0, none⟩) 1 [1] by
    refine ⟨rfl, fun _ => ⟨_, rfl, by simp only; omega⟩, fun ad e k hk => ?_⟩
    obtain rfl : (⟨w.heap.size + 1, 0, none⟩ : Addr) = ad := by injection e
    obtain rfl : k = 0 := by omega
    rw [hwz]
    simp [Addr.add, Zs.at])
  have HX := Lib.hid (show Box3 wz w.heap.size (.slice none 0 0) (.slice none 0 0) (.slice none 0 0) by rw [hwz]; exact (Box3.made _ _ _ _ _).alloc (by simp) _)
  have HF := Lib.hid (show ∀ off, wz.frozen? ⟨w.heap.size, off, none⟩ = false by rw [hwz]; exact fun off => by simp)
  have HB := Lib.hid (show Below w.heap.size w wz by rw [hwz]; exact ((Below.refl _ _).alloc (Nat.le_refl _) _).alloc (by simp) _)
  have HS := Lib.hid hsz
  clear hsz
  go_enter Tryd.func13, Tryd.ntmps13
  go_wp2_with fail
  rw [← hwz]
  have HWZ := Lib.hid hwz
  clear hwz
  refine (repeat_one _ _ 6 1 _ HIN.out (by decide) (by decide) mul_6).mono ?_
  rintro e w1 ⟨rfl, o0, b1⟩
  have HIN := Lib.hid (HIN.out.to_below b1)
  go_wp2_with fail
  refine (repeat_one _ _ 6 1 _ HIN.out (by decide) (by decide) mul_6).mono ?_
  rintro e w2 ⟨rfl, o1, b2⟩
  have HIN := Lib.hid (HIN.out.to_below b2)
  go_wp2_with fail
  refine (repeat_one _ _ 36 1 _ HIN.out (by decide) (by decide) mul_36).mono ?_
  rintro e w3 ⟨rfl, o2, b3⟩
  go_wp2
  obtain ⟨h0, eh0⟩ : ∃ x, x = wz.heap.size := ⟨_, rfl⟩
  obtain ⟨h1, eh1⟩ : ∃ x, x = w1.heap.size := ⟨_, rfl⟩
  obtain ⟨h2, eh2⟩ : ∃ x, x = w2.heap.size := ⟨_, rfl⟩
  obtain ⟨g, eg⟩ : ∃ x, x = w3.heap.size := ⟨_, rfl⟩
  rw [← eh0, ← eh1, ← eh2, ← eg]
  rw [← eh0] at o0
  rw [← eh1] at o1
  rw [← eh2] at o2
  have s1 := HS.out
  have l1 := (o0.lt h0 rfl).2
  have l2 := (o1.lt h1 rfl).2
  have l3 := (o2.lt h2 rfl).2
  have z1 := b1.size
  have z2 := b2.size
  have z3 := b3.size
  obtain ⟨wl, hwl⟩ : ∃ wl, wl = w3.alloc (.cells #[.slice (some ⟨h0, 0, none⟩) 6 6, .slice (some ⟨h1, 0, none⟩) 6 6, .slice (some ⟨h2, 0, none⟩) 36 36] 37) := ⟨_, rfl⟩
  rw [← hwl]
  have b13 : Below wz.heap.size wz w3 := b1.trans ((b2.mono (by omega)).trans (b3.mono (by omega)))
  have hbl : Below w3.heap.size w3 wl := by rw [hwl]; exact (Below.refl _ _).alloc (Nat.le_refl _) _
  have hzl : wl.heap.size = g + 1 := by rw [hwl, eg]; simp
  have hap : ∀ (x y n m c d : Nat), x ≠ y → Apart (.slice (some ⟨x, 0, none⟩) n c) (.slice (some ⟨y, 0, none⟩) m d) := fun x y n m c d hne => .inr (by simp [Value.ownBlock]; exact hne)
  have hU : UnitG w w.heap.size g (.slice (some ⟨h0, 0, none⟩) 6 6) (.slice (some ⟨h1, 0, none⟩) 6 6) (.slice (some ⟨h2, 0, none⟩) 36 36) wl := by
    refine ⟨HX.out.below (b13.trans (hbl.mono (by omega))) (by omega), free_below (b13.trans (hbl.mono (by omega))) (by omega) HF.out, ?_, ?_, ?_, hap _ _ _ _ _ _ (by omega), hap _ _ _ _ _ _ (by omega), hap _ _ _ _ _ _ (by omega), HB.out.trans ((b13.trans (hbl.mono (by omega))).mono (by omega)), by omega, by omega, fun b hb => ?_, Nat.le_refl _, by omega⟩
    · rw [hwl, eg]; exact Box3.made _ _ _ _ _
    · exact own_base (own_below (own_below (own_below o0 b2) b3) hbl) (by omega)
    · exact own_base (own_below (own_below o1 b3) hbl) (by omega)
    · obtain rfl : h2 = b := by simpa [Value.ownBlock] using hb
      exact ⟨by omega, by omega, by omega⟩
  have HU := Lib.hid hU
  have HO := Lib.hid (show wl.ownsRow w.heap.size 3 1 (.slice (some ⟨h2, 0, none⟩) 36 36) 36 (ints (Co.udiag 0)) by rw [Co.udiag_zero]; exact own_base (own_below o2 hbl) (by omega))
  have HNE := Lib.hid (show h0 ≠ w.heap.size ∧ h1 ≠ w.heap.size by omega)
  clear hU hap hzl hbl b13 z1 z2 z3 l1 l2 l3 s1 o0 o1 o2 b1 b2 b3 eh0 eh1 eh2 eg hwl HX HF HB
  go_loopw [12] (fun iv wr => ∃ a : Nat, a ≤ 6 ∧ iv = .int .i64 a ∧ wr.ownsRow w.heap.size 3 1 (.slice (some ⟨h2, 0, none⟩) 36 36) 36 (ints (Co.udiag a)) ∧ UnitG w w.heap.size g (.slice (some ⟨h0, 0, none⟩) 6 6) (.slice (some ⟨h1, 0, none⟩) 6 6) (.slice (some ⟨h2, 0, none⟩) 36 36) wr) (fun i _ => 6 - (intOf i).toNat)
  case atStart => exact ⟨0, Nat.zero_le _, rfl, HO.out, HU.out⟩
  case round =>
    clear HO HU
    obtain ⟨a, ha, rfl, hO, hU⟩ := hrel
    have HO := Lib.hid hO
    have HU := Lib.hid hU
    clear hO hU
    by_cases hlt : a < 6
    · have k0 : decide ((a : Int) < 6) = true := by simp; omega
      obtain ⟨p, hp⟩ : ∃ p, p = a * 6 + a := ⟨_, rfl⟩
      have c0 := own_int HO.out (k := p) (by rw [Co.udiag_length]; omega)
      have f0 := HO.out.frozenAt p
      obtain ⟨x0, x1, x2⟩ := HU.out.2.2.1
      have HA3 := Lib.hid (show (a : Int) * 6 + (a : Int) = (p : Int) by omega)
      have k1 : (0 : Int) ≤ (p : Int) := by omega
      have k2 : (p : Int) < 36 := by omega
      have HP := Lib.hid hp
      clear hp x0 x1
      go_wp2_with fail
      go_still_tail 6, (by kernel_rfl)
      still_call ((relIndex_any _ _ _ (by omega) (by omega) (by omega) (by omega)).mono fun e w' ⟨h1, h2⟩ => ⟨by rw [h1, HA3.out], h2.symm⟩)
      repeat still_step
      refine wpStill_nil ?_
      change wpList _ _ _ _ _ wr.drew
      go_wp2
      go_roundw
      case rel =>
        have hs := (World.ownsRow.drew HO.out).stored p (.int .i64 0)
        refine ⟨a + 1, by omega, by go_num, ?_, (HU.out.drewN 1).kept hs.2⟩
        have := hs.1
        rw [ints_set, HP.out, Co.udiag_set a hlt, ← HP.out] at this
        exact this
      case measure => simp [intOf]; omega
    · obtain rfl : a = 6 := by omega
      obtain ⟨hx, hf, hy, o0, o1, a01, a02, a12, hB, hs, hgl, hb, h0', hsg⟩ := HU.out
      have k1 : decide (((6 : Nat) : Int) < 6) = false := rfl
      obtain ⟨y0, y1, y2⟩ := hy
      obtain ⟨x0, x1, x2⟩ := hx
      have f0 := hf 0
      have f1 := hf 1
      have f2 := hf 2
      have keep : ∀ (v : Value) (n : Nat) (ys : List Value) (u0 u1 u2 : Value), (∀ b, v.ownBlock = some b → b ≠ w.heap.size) → wr.ownsRow w.heap.size 3 1 v n ys → (((wr.setCell ⟨w.heap.size, 0, none⟩ u0).setCell ⟨w.heap.size, 1, none⟩ u1).setCell ⟨w.heap.size, 2, none⟩ u2).ownsRow w.heap.size 3 1 v n ys := fun v n ys u0 u1 u2 hne k => by
        have hap : v.ownBlock = none ∨ v.ownBlock ≠ some w.heap.size := by
          rcases hbv : v.ownBlock with _ | b
          · exact .inl rfl
          · exact .inr (fun e => hne b hbv (by injection e))
        exact World.ownsRow.kept (World.ownsRow.kept (World.ownsRow.kept k (Kit.grown_set _ _ _ _) hap) (Kit.grown_set _ _ _ _) hap) (Kit.grown_set _ _ _ _) hap
      have KP := Lib.hid keep
      have O0 := Lib.hid o0
      have O1 := Lib.hid o1
      have HA := Lib.hid (And.intro a01 (And.intro a02 a12))
      have HBW := Lib.hid hB
      have HN := Lib.hid hb
      clear hf o0 o1 a01 a02 a12 hB keep hgl hb
      go_wp2
      (try simp only [Exit.inBlock, Exit.then])
      refine bodyPost_ret (v := .agg #[.slice (some ⟨h0, 0, none⟩) 6 6, .slice (some ⟨h1, 0, none⟩) 6 6, .slice (some ⟨h2, 0, none⟩) 36 36]) ?_ rfl ?_
      · rw [results_cell1 rfl]
        go_simp
      · have hl : Co.unit.r.length = 36 := Co.urel_length 36
        have o2 := HO.out
        rw [Co.udiag_all] at o2
        refine ⟨some ⟨h0, 0, none⟩, some ⟨h1, 0, none⟩, some ⟨h2, 0, none⟩, 6, 6, 36, by rw [hl]; rfl, KP.out _ _ _ _ _ _ ?_ O0.out, KP.out _ _ _ _ _ _ ?_ O1.out, by rw [hl]; exact KP.out _ _ _ _ _ _ (fun b hb => (HN.out b hb).1) o2, HA.out.1, by rw [hl]; exact HA.out.2.1, by rw [hl]; exact HA.out.2.2, ((HBW.out.setCell (Nat.le_refl _) _).setCell (Nat.le_refl _) _).setCell (Nat.le_refl _) _⟩
        · intro b hb; obtain rfl : h0 = b := by simpa [Value.ownBlock] using hb
          exact HNE.out.1
        · intro b hb; obtain rfl : h1 = b := by simpa [Value.ownBlock] using hb
          exact HNE.out.2

end Go.Proofs.YtofpcedpmbecgaaDoor

/- Two lists of nodes that agree so far. -/
namespace Go.Proofs.YtofpcedpmbecgaaDoor
open Go.RowKit
set_option linter.unusedVariables false

/-- the first k nodes agree -/
def Tr.same (xs ys : Tr) (k : Nat) : Prop := ∀ j, j < k → Tr.l xs j = Tr.l ys j ∧ Tr.d xs j = Tr.d ys j

end Go.Proofs.YtofpcedpmbecgaaDoor
