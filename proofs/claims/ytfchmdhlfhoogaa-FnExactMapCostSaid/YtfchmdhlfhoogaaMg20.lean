/- Texts of one claim laid into one file, in build order: RepI, UnitI, DrTd, Scal, ExScaled. -/
import Derived.Test.YtfchmdhlfhoogaaMg19
import Derived.Deep.RegionHeld3
import Derived.Laws.CopyOwn
import Derived.Outline
import Derived.StillTailTactics
import Derived.Test.YtfchmdhlfhoogaaRows
/- Contracts (RepI). -/
namespace Go.Proofs.Ytfchmdhlfhoogaa
open Go.RowKit
set_option linter.unusedVariables false

def Rep.row (m k : Nat) (z : Int) : List Int := List.replicate k z ++ List.replicate (m - k) 0
theorem Rep.row_length (m k : Nat) (z : Int) (h : k ≤ m) : (Rep.row m k z).length = m := by simp [Rep.row]; omega
theorem Rep.row_zero (m : Nat) (z : Int) : Rep.row m 0 z = List.replicate m 0 := by simp [Rep.row]
theorem Rep.row_all (m : Nat) (z : Int) : Rep.row m m z = List.replicate m z := by simp [Rep.row]
theorem Rep.splice (m k c : Nat) (z : Int) (h : k + c ≤ m) : Go.splice (ints (Rep.row m k z)) k (ints (List.replicate c z)) = ints (Rep.row m (k + c) z) := by
  have h1 : (ints (Rep.row m k z)).take k = ints (List.replicate k z) := by
    simp only [Rep.row, ints_append]
    rw [List.take_append_of_le_length (by simp [ints])]
    exact List.take_of_length_le (by simp [ints])
  have h2 : (ints (Rep.row m k z)).drop (k + c) = ints (List.replicate (m - (k + c)) 0) := by
    simp only [Rep.row, ints_append]
    rw [List.drop_append]
    simp [ints]
    omega
  have h3 : (ints (List.replicate c z)).length = c := by simp [ints]
  unfold Go.splice
  rw [h3, h1, h2, ← ints_append, ← ints_append, Rep.row, ← List.append_assoc, List.replicate_append_replicate]
theorem own_full {w : World} {base n g : Nat} {e : TypeId} {ys : List Value} (h : w.ownsRow base e 1 (.slice (some ⟨g, 0, none⟩) n n) n ys) : w.heap[g]? = some (.cells ys.toArray e (0, 0)) := by
  rcases h.2 with ⟨h1, _⟩ | ⟨g', cap, cur, hv, _, hh, _, _, hs, ht⟩
  · cases h1
  · injection hv with hA hn hc
    injection hA with hA
    injection hA with hg
    subst hg
    subst hc
    have : cur.toList = ys := by rw [← ht]; exact (List.take_of_length_le (by simp; omega)).symm
    rw [hh, ← this]
theorem own_of_heap {w : World} {base m g : Nat} {e : TypeId} {zs : List Int} (hg : w.heap[g]? = some (.cells (ints zs).toArray e (0, 0))) (hb : base ≤ g) (hl : zs.length = m) (hm : m ≤ maxLen) : w.ownsRow base e 1 (.slice (some ⟨g, 0, none⟩) m m) m (ints zs) := by
  refine ⟨by rw [ints_length, hl]; omega, .inr ⟨g, m, (ints zs).toArray, rfl, hb, hg, Nat.le_refl _, hm, by simp [ints_length, hl], ?_⟩⟩
  rw [List.take_of_length_le (by simp [ints_length, hl])]
theorem Rep.src {w : World} {g m k d j : Nat} {z : Int} {v : Value} (hg : w.heap[g]? = some (.cells (ints (Rep.row m k z)).toArray 3 (0, 0))) (hkm : k ≤ m) (hm : m ≤ 1000) (hdk : d ≤ k) (hj : (ints (List.replicate d z))[j]? = some v) : w.cell? ((⟨g, 0, none⟩ : Addr).add j) = some v := by
  have hjd := (List.getElem?_eq_some_iff.1 hj).1
  rw [ints_length, List.length_replicate] at hjd
  rw [ints_at _ _ (by rw [List.length_replicate]; exact hjd)] at hj
  have h1 := own_of_heap hg (Nat.le_refl _) (Rep.row_length m k z hkm) (by unfold maxLen; omega)
  rw [(IntIn.of_own h1).here (k := j) (by omega), ← hj]
  have h2 : Zs.at (Rep.row m k z) j = z := by simp [Zs.at, Rep.row, List.getD_eq_getElem?_getD, List.getElem?_append, show j < k by omega]
  have h3 : Zs.at (List.replicate d z) j = z := by simp [Zs.at, List.getD_eq_getElem?_getD, hjd]
  rw [h2, h3]
set_option maxHeartbeats 800000 in
set_option maxRecDepth 100000 in
theorem mul_6 (w : World) : Calls Try.prog 129 #[.int .u64 1, .int .u64 6] w fun e w' => e = .returned (.tuple #[.int .u64 0, .int .u64 6]) ∧ w = w' := by
  go_enter Try.func129, Try.ntmps129
  go_wp2
  go_ret2
  exact ⟨rfl, rfl⟩
set_option maxHeartbeats 800000 in
set_option maxRecDepth 100000 in
theorem mul_36 (w : World) : Calls Try.prog 129 #[.int .u64 1, .int .u64 36] w fun e w' => e = .returned (.tuple #[.int .u64 0, .int .u64 36]) ∧ w = w' := by
  go_enter Try.func129, Try.ntmps129
  go_wp2
  go_ret2
  exact ⟨rfl, rfl⟩
theorem info_intR : (Try.prog.info? 3).map (fun i => (i.zero, i.size, i.bytes)) = some (some (.int .i64 0), 1, 8) := by kernel_rfl
theorem size_intR : (Try.prog.info? 3).map (·.size) = some 1 := by kernel_rfl
set_option maxHeartbeats 1600000 in
set_option maxRecDepth 100000 in
theorem repeat_one (A : Option Addr) (c m : Nat) (z : Int) (w : World) (h : IntIn w w.heap.size A 1 [z]) (hm0 : 1 ≤ m) (hm : m ≤ 1000)
    (hmul : ∀ w, Calls Try.prog 129 #[.int .u64 1, .int .u64 m] w fun e w' => e = .returned (.tuple #[.int .u64 0, .int .u64 m]) ∧ w = w') :
    Calls Try.prog 91 #[.slice A 1 c, .int .i64 m] w fun e w' => e = .returned (.slice (some ⟨w.heap.size, 0, none⟩) m m) ∧ w'.ownsRow w.heap.size 3 1 (.slice (some ⟨w.heap.size, 0, none⟩) m m) m (ints (List.replicate m z)) ∧ Below w.heap.size w w' := by
  have H := Lib.hid h
  obtain ⟨ad, rfl, _, hz⟩ := h.at_ (k := 0) (by omega)
  have HZ := Lib.hid hz
  clear h hz
  have HM := Lib.hid hmul
  clear hmul
  obtain ⟨i0, hi, hz0, hz1, hz2⟩ := info_parts info_intR
  have Hi := Lib.hid hi
  clear hi
  obtain ⟨g, hg⟩ : ∃ g, g = w.heap.size := ⟨_, rfl⟩
  have q1 : decide ((m : Int) < 0) = false := by simp
  go_enter Try.func91, Try.ntmps91
  go_wp2_with fail
  refine (HM.out _).mono ?_
  rintro e w' ⟨rfl, rfl⟩
  have q2 : decide (9223372036854775807 < (m : Int)) = false := by simp; omega
  obtain ⟨C1, hC1⟩ : ∃ C, C = ints (List.replicate 1 z) := ⟨_, rfl⟩
  have hl1 : C1.length = 1 := by rw [hC1]; simp [ints]
  have HC1 := Lib.hid hC1
  clear hC1
  go_wp2_with (first | (at_make; go_loud (refine wpList_make_full _ rfl _ _ 25 rfl w.heap.size 3 i0 (.int .i64 0) 1 Try.underlying25 Hi.out hz0 hz1 _ _ _ _ m rfl rfl rfl rfl (by rw [hz2]; omega) (by unfold maxLen; omega) (Nat.le_refl _) ?_); intro w2 hown2 hgrow2; have hb2 : Below w.heap.size w w2 := (Below.refl _ w).grown hgrow2 (Nat.le_refl _) (fun _ h => by cases h); rw [made_zeros 0 m, ← Rep.row_zero m z] at hown2; have HG := Lib.hid (own_full hown2); have HB := Lib.hid hb2; clear hown2 hgrow2 hb2) | (refine wpList_copy_splice rfl _ _ 25 25 rfl 3 Try.underlying25 size_intR _ _ _ _ _ _ rfl rfl w.heap.size 0 (ints (Rep.row m 0 z)) 3 HG.out C1 (by rw [hl1]; exact (Nat.min_eq_left hm0).symm) (fun _ => ⟨rfl, _, rfl, fun j v hj => (H.out.below HB.out).cells_at j v (by rw [HC1.out] at hj; exact hj)⟩) (by rw [hl1, ints_length, Rep.row_length m 0 z (Nat.zero_le _)]; omega) (by rw [HC1.out]; exact ints_cell _) w.heap.size w HB.out (Nat.le_refl _) ?_; intro w3 hg3 hb3; rw [HC1.out, Rep.splice m 0 1 z (by omega)] at hg3; have HG3 := hg3; have HB3 := Lib.hid hb3; clear hg3 hb3))
  clear HG HB
  go_loopw [8] (fun nv wr => ∃ k : Nat, 1 ≤ k ∧ k ≤ m ∧ nv = .int .i64 k ∧ Hid (wr.heap[w.heap.size]? = some (.cells (ints (Rep.row m k z)).toArray 3 (0, 0))) ∧ Below w.heap.size w wr) (fun n _ => m - (intOf n).toNat)
  case atStart => exact ⟨1, Nat.le_refl _, hm0, rfl, HG3, HB3.out⟩
  case round =>
    obtain ⟨k, hk1, hkm, rfl, HG, hB⟩ := hrel
    have HB := Lib.hid hB
    clear hB HG3 HB3
    by_cases hlt : k < m
    · obtain ⟨d, hd⟩ : ∃ d, d = min k (m - k) := ⟨_, rfl⟩
      obtain ⟨C, hC⟩ : ∃ C, C = ints (List.replicate d z) := ⟨_, rfl⟩
      have hl : C.length = d := by rw [hC]; simp [ints]
      have HC := Lib.hid hC
      have HD := Lib.hid hd
      have hdk : k + d ≤ m := by omega
      have hd1 : 1 ≤ d := by omega
      clear hC hd
      have HS := Lib.hid (show IntKind.i64.wrap ((k : Int) + (d : Int)) = ((k + d : Nat) : Int) by rw [Kit.w64 (by omega) (by omega)]; omega)
      have k1 : (k : Int) < (m : Int) := by omega
      have hmk : ¬ m = k := by omega
      have k2 : (0 : Int) ≤ (k : Int) := by omega
      go_wp2
      go_region_held3 (fun _ => True) (trivial) (((refine step_copy_splice rfl _ _ 25 25 rfl 3 Try.underlying25 size_intR _ _ _ _ _ _ rfl rfl w.heap.size k (ints (Rep.row m k z)) 3 HG.out C (by rw [hl, HD.out]) (fun _ => ⟨by (first | rfl | (rw [if_neg hmk])), _, rfl, fun j v hj => Rep.src (d := d) (w := wr) HG.out hkm hm (by rw [HD.out]; exact Nat.min_le_left _ _) (by rw [HC.out] at hj; exact hj)⟩) (by rw [hl, ints_length, Rep.row_length m k z hkm]; exact hdk) (by rw [HC.out]; exact ints_cell _) w.heap.size w HB.out.drew (Nat.le_refl _) ?_); intro w4 hg4 hb4))
      go_wp2
      rw [HC.out, Rep.splice m k d z hdk] at hg4
      rw [HS.out]
      go_roundw
      case rel => exact ⟨k + d, by omega, hdk, rfl, hg4, hb4⟩
      case measure => simp [intOf]; omega
    · obtain rfl : k = m := by omega
      go_wp2
      go_ret
      refine ⟨rfl, ?_, HB.out⟩
      have := own_of_heap HG.out (Nat.le_refl _) (Rep.row_length k k z (Nat.le_refl _)) (by unfold maxLen; omega)
      rw [Rep.row_all] at this
      exact this

end Go.Proofs.Ytfchmdhlfhoogaa

/- Contracts (UnitI). -/
namespace Go.Proofs.Ytfchmdhlfhoogaa
open Go.RowKit
set_option linter.unusedVariables false

def Co.udiag (a : Nat) : List Int := (List.range 36).map fun p => if p / 6 = p % 6 ∧ p / 6 < a then 0 else 1
theorem Co.udiag_zero : Co.udiag 0 = List.replicate 36 1 := by decide
theorem Co.udiag_all : Co.udiag 6 = Co.urel 36 := by decide
theorem Co.udiag_length (a : Nat) : (Co.udiag a).length = 36 := by simp [Co.udiag]
theorem Co.udiag_set : ∀ a, a < 6 → (Co.udiag a).set (a * 6 + a) 0 = Co.udiag (a + 1) := by decide
/-- what a loop that writes into one row finds at its head -/
def UnitG (w0 : World) (s g : Nat) (v0 v1 v2 : Value) (w : World) : Prop :=
  Box3 w s (.slice none 0 0) (.slice none 0 0) (.slice none 0 0) ∧ (∀ off, w.frozen? ⟨s, off, none⟩ = false) ∧ Box3 w g v0 v1 v2 ∧ w.ownsRow w0.heap.size 3 1 v0 6 (ints (List.replicate 6 1)) ∧ w.ownsRow w0.heap.size 3 1 v1 6 (ints (List.replicate 6 1)) ∧
  Apart v0 v1 ∧ Apart v0 v2 ∧ Apart v1 v2 ∧ Below w0.heap.size w0 w ∧ s < w.heap.size ∧ g < w.heap.size ∧ (∀ b, v2.ownBlock = some b → b ≠ s ∧ b ≠ g ∧ w0.heap.size ≤ b) ∧ w0.heap.size ≤ s ∧ ¬ s = g
theorem free_grown {w w' : World} {g : Nat} {r : Option Nat} (hg : w.grownBy w' r) (hl : g < w.heap.size) (hr : ∀ b, r = some b → b ≠ g) (h : ∀ off, w.frozen? ⟨g, off, none⟩ = false) (off : Nat) : w'.frozen? ⟨g, off, none⟩ = false := by
  have e := hg.block g hl (fun e => hr g e.symm rfl)
  have := h off
  unfold World.frozen? at this ⊢
  simp only [e]
  exact this
theorem UnitG.kept {w0 w w' : World} {s g : Nat} {v0 v1 v2 : Value} (h : UnitG w0 s g v0 v1 v2 w) (hg : w.grownBy w' v2.ownBlock) : UnitG w0 s g v0 v1 v2 w' := by
  obtain ⟨hx, hf, hy, o0, o1, a01, a02, a12, hB, hs, hgl, hb, h0, hsg⟩ := h
  refine ⟨hx.grown hg hs (fun b e => (hb b e).1), free_grown hg hs (fun b e => (hb b e).1) hf, hy.grown hg hgl (fun b e => (hb b e).2.1), World.ownsRow.kept o0 hg a02, World.ownsRow.kept o1 hg a12, a01, a02, a12, hB.grown hg hB.size (fun b e => (hb b e).2.2), Nat.lt_of_lt_of_le hs hg.size, Nat.lt_of_lt_of_le hgl hg.size, hb, h0, hsg⟩
theorem UnitG.drewN {w0 w : World} {s g : Nat} {v0 v1 v2 : Value} (h : UnitG w0 s g v0 v1 v2 w) (n : Nat) : UnitG w0 s g v0 v1 v2 (w.drewN n) := h.kept (Kit.grown_drewN w n _)
set_option maxHeartbeats 1600000 in
set_option maxRecDepth 100000 in
theorem implUnitCost_any (w : World) : Calls Try.prog 40 #[] w (OwnCo Co.unit w) := by
  obtain ⟨wz, hwz⟩ : ∃ wz, wz = (w.alloc (.cells #[.slice none 0 0, .slice none 0 0, .slice none 0 0] 27)).alloc (.cells #[.int .i64 1] 3) := ⟨_, rfl⟩
  have hsz : wz.heap.size = w.heap.size + 2 := by rw [hwz]; simp
  have HIN := Lib.hid (show IntIn wz wz.heap.size (some ⟨w.heap.size + 1, 0, none⟩) 1 [1] by
    refine ⟨rfl, fun _ => ⟨_, rfl, by simp only; omega⟩, fun ad e k hk => ?_⟩
    obtain rfl : (⟨w.heap.size + 1, 0, none⟩ : Addr) = ad := by injection e
    obtain rfl : k = 0 := by omega
    rw [hwz]
    simp [Addr.add, Zs.at])
  have HX := Lib.hid (show Box3 wz w.heap.size (.slice none 0 0) (.slice none 0 0) (.slice none 0 0) by rw [hwz]; exact (Box3.made _ _ _ _ _).alloc (by simp) _)
  have HF := Lib.hid (show ∀ off, wz.frozen? ⟨w.heap.size, off, none⟩ = false by rw [hwz]; exact fun off => by simp)
  have HB := Lib.hid (show Below w.heap.size w wz by rw [hwz]; exact ((Below.refl _ _).alloc (Nat.le_refl _) _).alloc (by simp) _)
  have HS := Lib.hid hsz
  clear hsz
  go_enter Try.func40, Try.ntmps40
  go_wp2_with fail
  rw [← hwz]
  have HWZ := Lib.hid hwz
  clear hwz
  refine (repeat_one _ _ 6 1 _ HIN.out (by decide) (by decide) mul_6).mono ?_
  rintro e w1 ⟨rfl, o0, b1⟩
  have HIN := Lib.hid (HIN.out.to_below b1)
  go_wp2_with fail
  refine (repeat_one _ _ 6 1 _ HIN.out (by decide) (by decide) mul_6).mono ?_
  rintro e w2 ⟨rfl, o1, b2⟩
  have HIN := Lib.hid (HIN.out.to_below b2)
  go_wp2_with fail
  refine (repeat_one _ _ 36 1 _ HIN.out (by decide) (by decide) mul_36).mono ?_
  rintro e w3 ⟨rfl, o2, b3⟩
  go_wp2
  obtain ⟨h0, eh0⟩ : ∃ x, x = wz.heap.size := ⟨_, rfl⟩
  obtain ⟨h1, eh1⟩ : ∃ x, x = w1.heap.size := ⟨_, rfl⟩
  obtain ⟨h2, eh2⟩ : ∃ x, x = w2.heap.size := ⟨_, rfl⟩
  obtain ⟨g, eg⟩ : ∃ x, x = w3.heap.size := ⟨_, rfl⟩
  rw [← eh0, ← eh1, ← eh2, ← eg]
  rw [← eh0] at o0
  rw [← eh1] at o1
  rw [← eh2] at o2
  have s1 := HS.out
  have l1 := (o0.lt h0 rfl).2
  have l2 := (o1.lt h1 rfl).2
  have l3 := (o2.lt h2 rfl).2
  have z1 := b1.size
  have z2 := b2.size
  have z3 := b3.size
  obtain ⟨wl, hwl⟩ : ∃ wl, wl = w3.alloc (.cells #[.slice (some ⟨h0, 0, none⟩) 6 6, .slice (some ⟨h1, 0, none⟩) 6 6, .slice (some ⟨h2, 0, none⟩) 36 36] 27) := ⟨_, rfl⟩
  rw [← hwl]
  have b13 : Below wz.heap.size wz w3 := b1.trans ((b2.mono (by omega)).trans (b3.mono (by omega)))
  have hbl : Below w3.heap.size w3 wl := by rw [hwl]; exact (Below.refl _ _).alloc (Nat.le_refl _) _
  have hzl : wl.heap.size = g + 1 := by rw [hwl, eg]; simp
  have hap : ∀ (x y n m c d : Nat), x ≠ y → Apart (.slice (some ⟨x, 0, none⟩) n c) (.slice (some ⟨y, 0, none⟩) m d) := fun x y n m c d hne => .inr (by simp [Value.ownBlock]; exact hne)
  have hU : UnitG w w.heap.size g (.slice (some ⟨h0, 0, none⟩) 6 6) (.slice (some ⟨h1, 0, none⟩) 6 6) (.slice (some ⟨h2, 0, none⟩) 36 36) wl := by
    refine ⟨HX.out.below (b13.trans (hbl.mono (by omega))) (by omega), free_below (b13.trans (hbl.mono (by omega))) (by omega) HF.out, ?_, ?_, ?_, hap _ _ _ _ _ _ (by omega), hap _ _ _ _ _ _ (by omega), hap _ _ _ _ _ _ (by omega), HB.out.trans ((b13.trans (hbl.mono (by omega))).mono (by omega)), by omega, by omega, fun b hb => ?_, Nat.le_refl _, by omega⟩
    · rw [hwl, eg]; exact Box3.made _ _ _ _ _
    · exact own_base (own_below (own_below (own_below o0 b2) b3) hbl) (by omega)
    · exact own_base (own_below (own_below o1 b3) hbl) (by omega)
    · obtain rfl : h2 = b := by simpa [Value.ownBlock] using hb
      exact ⟨by omega, by omega, by omega⟩
  have HU := Lib.hid hU
  have HO := Lib.hid (show wl.ownsRow w.heap.size 3 1 (.slice (some ⟨h2, 0, none⟩) 36 36) 36 (ints (Co.udiag 0)) by rw [Co.udiag_zero]; exact own_base (own_below o2 hbl) (by omega))
  have HNE := Lib.hid (show h0 ≠ w.heap.size ∧ h1 ≠ w.heap.size by omega)
  clear hU hap hzl hbl b13 z1 z2 z3 l1 l2 l3 s1 o0 o1 o2 b1 b2 b3 eh0 eh1 eh2 eg hwl HX HF HB
  go_loopw [12] (fun iv wr => ∃ a : Nat, a ≤ 6 ∧ iv = .int .i64 a ∧ wr.ownsRow w.heap.size 3 1 (.slice (some ⟨h2, 0, none⟩) 36 36) 36 (ints (Co.udiag a)) ∧ UnitG w w.heap.size g (.slice (some ⟨h0, 0, none⟩) 6 6) (.slice (some ⟨h1, 0, none⟩) 6 6) (.slice (some ⟨h2, 0, none⟩) 36 36) wr) (fun i _ => 6 - (intOf i).toNat)
  case atStart => exact ⟨0, Nat.zero_le _, rfl, HO.out, HU.out⟩
  case round =>
    clear HO HU
    obtain ⟨a, ha, rfl, hO, hU⟩ := hrel
    have HO := Lib.hid hO
    have HU := Lib.hid hU
    clear hO hU
    by_cases hlt : a < 6
    · have k0 : decide ((a : Int) < 6) = true := by simp; omega
      obtain ⟨p, hp⟩ : ∃ p, p = a * 6 + a := ⟨_, rfl⟩
      have c0 := own_int HO.out (k := p) (by rw [Co.udiag_length]; omega)
      have f0 := HO.out.frozenAt p
      obtain ⟨x0, x1, x2⟩ := HU.out.2.2.1
      have HA3 := Lib.hid (show (a : Int) * 6 + (a : Int) = (p : Int) by omega)
      have k1 : (0 : Int) ≤ (p : Int) := by omega
      have k2 : (p : Int) < 36 := by omega
      have HP := Lib.hid hp
      clear hp x0 x1
      go_wp2_with fail
      go_still_tail 6, (by kernel_rfl)
      still_call ((relIndex_any _ _ _ (by omega) (by omega) (by omega) (by omega)).mono fun e w' ⟨h1, h2⟩ => ⟨by rw [h1, HA3.out], h2.symm⟩)
      repeat still_step
      refine wpStill_nil ?_
      change wpList _ _ _ _ _ wr.drew
      go_wp2
      go_roundw
      case rel =>
        have hs := (World.ownsRow.drew HO.out).stored p (.int .i64 0)
        refine ⟨a + 1, by omega, by go_num, ?_, (HU.out.drewN 1).kept hs.2⟩
        have := hs.1
        rw [ints_set, HP.out, Co.udiag_set a hlt, ← HP.out] at this
        exact this
      case measure => simp [intOf]; omega
    · obtain rfl : a = 6 := by omega
      obtain ⟨hx, hf, hy, o0, o1, a01, a02, a12, hB, hs, hgl, hb, h0', hsg⟩ := HU.out
      have k1 : decide (((6 : Nat) : Int) < 6) = false := rfl
      obtain ⟨y0, y1, y2⟩ := hy
      obtain ⟨x0, x1, x2⟩ := hx
      have f0 := hf 0
      have f1 := hf 1
      have f2 := hf 2
      have keep : ∀ (v : Value) (n : Nat) (ys : List Value) (u0 u1 u2 : Value), (∀ b, v.ownBlock = some b → b ≠ w.heap.size) → wr.ownsRow w.heap.size 3 1 v n ys → (((wr.setCell ⟨w.heap.size, 0, none⟩ u0).setCell ⟨w.heap.size, 1, none⟩ u1).setCell ⟨w.heap.size, 2, none⟩ u2).ownsRow w.heap.size 3 1 v n ys := fun v n ys u0 u1 u2 hne k => by
        have hap : v.ownBlock = none ∨ v.ownBlock ≠ some w.heap.size := by
          rcases hbv : v.ownBlock with _ | b
          · exact .inl rfl
          · exact .inr (fun e => hne b hbv (by injection e))
        exact World.ownsRow.kept (World.ownsRow.kept (World.ownsRow.kept k (Kit.grown_set _ _ _ _) hap) (Kit.grown_set _ _ _ _) hap) (Kit.grown_set _ _ _ _) hap
      have KP := Lib.hid keep
      have O0 := Lib.hid o0
      have O1 := Lib.hid o1
      have HA := Lib.hid (And.intro a01 (And.intro a02 a12))
      have HBW := Lib.hid hB
      have HN := Lib.hid hb
      clear hf o0 o1 a01 a02 a12 hB keep hgl hb
      go_wp2
      (try simp only [Exit.inBlock, Exit.then])
      refine bodyPost_ret (v := .agg #[.slice (some ⟨h0, 0, none⟩) 6 6, .slice (some ⟨h1, 0, none⟩) 6 6, .slice (some ⟨h2, 0, none⟩) 36 36]) ?_ rfl ?_
      · rw [results_cell1 rfl]
        go_simp
      · have hl : Co.unit.r.length = 36 := Co.urel_length 36
        have o2 := HO.out
        rw [Co.udiag_all] at o2
        refine ⟨some ⟨h0, 0, none⟩, some ⟨h1, 0, none⟩, some ⟨h2, 0, none⟩, 6, 6, 36, by rw [hl]; rfl, KP.out _ _ _ _ _ _ ?_ O0.out, KP.out _ _ _ _ _ _ ?_ O1.out, by rw [hl]; exact KP.out _ _ _ _ _ _ (fun b hb => (HN.out b hb).1) o2, HA.out.1, by rw [hl]; exact HA.out.2.1, by rw [hl]; exact HA.out.2.2, ((HBW.out.setCell (Nat.le_refl _) _).setCell (Nat.le_refl _) _).setCell (Nat.le_refl _) _⟩
        · intro b hb; obtain rfl : h0 = b := by simpa [Value.ownBlock] using hb
          exact HNE.out.1
        · intro b hb; obtain rfl : h1 = b := by simpa [Value.ownBlock] using hb
          exact HNE.out.2

end Go.Proofs.Ytfchmdhlfhoogaa

/- Contracts (DrTd). -/
namespace Go.Proofs.Ytfchmdhlfhoogaa
open Go.RowKit
set_option linter.unusedVariables false

set_option maxHeartbeats 3200000 in
set_option maxRecDepth 100000 in
theorem l8DrawTreeDist_ex (w : World) (k : Code) (hcode : CodeIn w w.heap.size k.a k.cs) (hlen : k.cs.length ≤ 1048576) :
    Calls Try.prog 38 #[.slice k.a k.cs.length k.cap] w (DrawT3 w) := by
  obtain ⟨wz, hwz⟩ : ∃ wz, wz = w.alloc (.cells #[.slice none 0 0, .slice none 0 0, .slice none 0 0] 27) := ⟨_, rfl⟩
  obtain ⟨s, hs⟩ : ∃ s, s = w.heap.size := ⟨_, rfl⟩
  have hbz : Below w.heap.size w wz := by rw [hwz]; exact (Below.refl _ _).alloc (Nat.le_refl _) _
  have zz : wz.heap.size = s + 1 := by rw [hwz, hs]; simp
  have HX := Lib.hid (show Box3 wz s (.slice none 0 0) (.slice none 0 0) (.slice none 0 0) by rw [hwz, hs]; exact Box3.made _ _ _ _ _)
  have HF := Lib.hid (show ∀ off, wz.frozen? ⟨s, off, none⟩ = false by rw [hwz, hs]; exact fun off => by simp)
  have HC := Lib.hid (CodeIn.onto hcode hbz hbz.size)
  have HBZ := Lib.hid (show Below s w wz by rw [hs]; exact hbz)
  have HS := Lib.hid hs
  have HZ := Lib.hid zz
  have HW := Lib.hid hwz
  clear hcode hbz hs zz hwz
  go_enter Try.func38, Try.ntmps38
  go_wp2_with fail
  rw [← HW.out, ← HS.out]
  refine (l1New_ex _ k HC.out hlen).mono ?_
  rintro e w1 ⟨rfl, c, g1⟩
  have HX := Lib.hid (HX.out.grown g1 (by have := HZ.out; omega) (fun b e => by cases e))
  have HF := Lib.hid (free_kept g1 (by have := HZ.out; omega) (fun b e => by cases e) HF.out)
  have HB := Lib.hid (HBZ.out.trans ((Below.refl _ _).grown g1 (by have := HZ.out; omega) (fun b e => by cases e)))
  have l1 := g1.size
  have HQ := Lib.hid c
  have hsz : s < wz.heap.size := by have := HZ.out; omega
  clear c g1
  go_wp2_with fail
  refine (l8Draw_ex w1 _ k 12 (by decide) HQ.out).mono ?_
  rintro e w2 ⟨xs, ys, A, A', n, n', cp, cp', h0, h2, c0, c2, A1, n1, q1, K, rfl, ha, hb, hcp, hcp', hn, hn', hn1, hk, g, _, ⟨e0, e1, e2⟩, ea, eb⟩
  have HX := Lib.hid (HX.out.grown g (by omega) (fun b e => by injection e with e; omega))
  have HF := Lib.hid (free_kept g (by omega) (fun b e => by injection e with e; omega) HF.out)
  have HB := Lib.hid (HB.out.trans (Kit.below_of_grown g (fun b e => by injection e with e; omega) (by omega)))
  have l2 := g.size
  obtain ⟨w3, hw3⟩ : ∃ w3, w3 = w2.alloc (.cells #[.slice (some ⟨h0, 0, none⟩) 6 c0, .slice A1 n1 q1, .slice (some ⟨h2, 0, none⟩) 36 c2] 27) := ⟨_, rfl⟩
  have z3 : w3.heap.size = w2.heap.size + 1 := by rw [hw3]; simp
  have ga : w2.grownBy w3 none := by rw [hw3]; exact Kit.grown_alloc _ _ _
  obtain ⟨b0, b1, b2⟩ := (show Box3 w3 w2.heap.size (.slice (some ⟨h0, 0, none⟩) 6 c0) (.slice A1 n1 q1) (.slice (some ⟨h2, 0, none⟩) 36 c2) by rw [hw3]; exact Box3.made _ _ _ _ _)
  obtain ⟨x0, x1, x2⟩ := HX.out.grown ga (by omega) (fun b e => by cases e)
  have HF3 := Lib.hid (free_kept ga (by omega) (fun b e => by cases e) HF.out)
  have y0 := HF3.out 0
  have y1 := HF3.out 1
  have y2 := HF3.out 2
  have HB := Lib.hid (HB.out.trans ((Below.refl _ _).grown ga (by omega) (fun b e => by cases e)))
  have ND := Lib.hid (And.intro ha (And.intro hb (And.intro hk (And.intro e0 (And.intro e1 (And.intro e2 (And.intro ea eb)))))))
  have GA := Lib.hid ga
  have hne : w2.heap.size ≠ s := by omega
  have hne' : s ≠ w2.heap.size := by omega
  rw [hw3] at b0 b1 b2 x0 x1 x2 y0 y1 y2
  have HW3 := Lib.hid hw3
  clear ha hb hk g ga hw3 e0 e1 e2 ea eb
  go_wp2_with fail
  rw [← HW3.out]
  rw [← HW3.out] at b0 b1 b2 x0 x1 x2 y0 y1 y2
  go_still_tail 5, (by kernel_rfl)
  change wpList _ _ _ _ _ w3.drew
  go_wp2
  (try simp only [Exit.inBlock, Exit.then])
  refine bodyPost_ret (v := .tuple #[.slice A n cp, .slice A' n' cp', .agg #[.slice (some ⟨h0, 0, none⟩) 6 c0, .slice A1 n1 q1, .slice (some ⟨h2, 0, none⟩) 36 c2]]) ?_ rfl ?_
  · rw [results_two_cell rfl]
    go_simp
  · obtain ⟨ha, hb, ⟨k0, k1, k2⟩, e0, e1, e2, ea, eb⟩ := ND.out
    have gS : ∀ u0 u1 u2, w3.drew.grownBy (((w3.drew.setCell ⟨s, 0, none⟩ u0).setCell ⟨s, 1, none⟩ u1).setCell ⟨s, 2, none⟩ u2) (some s) := fun u0 u1 u2 => Kit.grown_then_set (Kit.grown_then_set (Kit.grown_set _ _ _ _) _ _) _ _
    have dr : w2.grownBy w3.drew none := grown_drewN GA.out 1
    have hlo : s < w1.heap.size := by omega
    have r1 : ∀ b, (none : Option Nat) = some b → b < w1.heap.size := fun b e => by cases e
    have r2 : ∀ b, some s = some b → b < w1.heap.size := fun b e => by injection e with e; omega
    have f0 : ∀ ad, (some ⟨h0, 0, none⟩ : Option Addr) = some ad → w1.heap.size ≤ ad.block := fun ad e => by injection e with e; rw [← e]; exact e0
    have f2 : ∀ ad, (some ⟨h2, 0, none⟩ : Option Addr) = some ad → w1.heap.size ≤ ad.block := fun ad e => by injection e with e; rw [← e]; exact e2
    have kA := (ha.keepLo ea dr r1).keepLo ea (gS (.slice (some ⟨h0, 0, none⟩) 6 c0) (.slice A1 n1 q1) (.slice (some ⟨h2, 0, none⟩) 36 c2)) r2
    have kB := (hb.keepLo eb dr r1).keepLo eb (gS (.slice (some ⟨h0, 0, none⟩) 6 c0) (.slice A1 n1 q1) (.slice (some ⟨h2, 0, none⟩) 36 c2)) r2
    have K0 := (k0.keepLo f0 dr r1).keepLo f0 (gS (.slice (some ⟨h0, 0, none⟩) 6 c0) (.slice A1 n1 q1) (.slice (some ⟨h2, 0, none⟩) 36 c2)) r2
    have K1 := (k1.keepLo e1 dr r1).keepLo e1 (gS (.slice (some ⟨h0, 0, none⟩) 6 c0) (.slice A1 n1 q1) (.slice (some ⟨h2, 0, none⟩) 36 c2)) r2
    have K2 := (k2.keepLo f2 dr r1).keepLo f2 (gS (.slice (some ⟨h0, 0, none⟩) 6 c0) (.slice A1 n1 q1) (.slice (some ⟨h2, 0, none⟩) 36 c2)) r2
    have BB := (Drawn.below HB.out (Drawn.refl w3).drew).trans (Kit.below_of_grown (gS (.slice (some ⟨h0, 0, none⟩) 6 c0) (.slice A1 n1 q1) (.slice (some ⟨h2, 0, none⟩) 36 c2)) (fun b e => by injection e with e; omega) (by show s ≤ w3.heap.size; omega))
    exact ⟨xs, ys, _, _, _, _, _, _, _, _, _, _, _, _, _, K, rfl, kA, kB, hcp, hcp', hn, hn', hn1, ⟨K0, K1, K2⟩, by rw [← HS.out]; exact BB⟩

end Go.Proofs.Ytfchmdhlfhoogaa

/- Contracts (Scal). -/
namespace Go.Proofs.Ytfchmdhlfhoogaa
open Go.RowKit
set_option linter.unusedVariables false

set_option maxHeartbeats 3200000 in
set_option maxRecDepth 100000 in
theorem scaled_any (k : Code) (w : World) (hcode : CodeIn w w.heap.size k.a k.cs) (hlen : k.cs.length ≤ 1048576) :
    Calls Try.prog 7 #[.slice k.a k.cs.length k.cap] w fun e w' => e = .returned (.bool true) ∧ Below w.heap.size w w' := by
  have HC := Lib.hid hcode
  clear hcode
  go_enter Try.func7, Try.ntmps7
  go_wp2_with fail
  refine (big_small _ _ _ (by omega) _).mono ?_
  rintro e w0 ⟨rfl, rfl⟩
  go_wp2_with fail
  refine (l8DrawTreeDist_ex w k HC.out hlen).mono ?_
  rintro e w1 ⟨xs, ys, A, A', n, n', cp, cp', h0, h2, c0, c2, A1, n1, q1, K, rfl, ha, hb, hcp, hcp', hn, hn', hn1, hk, hbl⟩
  obtain ⟨wa, hwa⟩ : ∃ wb, wb = w1.alloc (.cells #[.slice (some ⟨h0, 0, none⟩) 6 c0, .slice A1 n1 q1, .slice (some ⟨h2, 0, none⟩) 36 c2] 27) := ⟨_, rfl⟩
  have hba : Below w1.heap.size w1 wa := by rw [hwa]; exact (Below.refl _ _).alloc (Nat.le_refl _) _
  have HN0 := Lib.hid (ha.to_below hba)
  have HN1 := Lib.hid (hb.to_below hba)
  have HK := Lib.hid (hk.to_below hba)
  have HW := Lib.hid (hbl.trans (hba.mono hbl.size))
  have HQ := Lib.hid (show Box3 wa w1.heap.size (.slice (some ⟨h0, 0, none⟩) 6 c0) (.slice A1 n1 q1) (.slice (some ⟨h2, 0, none⟩) 36 c2) by rw [hwa]; exact Box3.made _ _ _ _ _)
  have Hwa := Lib.hid hwa
  have L0 := Lib.hid ha.1
  have L1 := Lib.hid hb.1
  have hN1 : n1 ≤ 1048576 := by rcases hn1 with h | h <;> omega
  have hs0 : n ≤ 1048576 := by omega
  have hs1 : n' ≤ 1048576 := by omega
  clear ha hb hk hbl hba hwa
  go_wp2_with fail
  rw [← Hwa.out]
  refine (specUnitCost_any wa).mono ?_
  intro e w2 hU
  obtain ⟨g0, g1, g2, d0, d1, d2, rfl, o0, o1, o2, ⟨oa, ob, oc⟩, ⟨ol0, ol1, ol2⟩, ⟨ou0, ou1, ou2⟩, oh⟩ := own6 hU
  clear hU
  obtain ⟨w3, hw3⟩ : ∃ w3, w3 = w2.alloc (.cells #[.slice (some ⟨g0, 0, none⟩) 6 d0, .slice (some ⟨g1, 0, none⟩) 6 d1, .slice (some ⟨g2, 0, none⟩) 36 d2] 27) := ⟨_, rfl⟩
  have s3 : w3.heap.size = w2.heap.size + 1 := by rw [hw3]; simp
  have b3 : Below w2.heap.size w2 w3 := by rw [hw3]; exact (Below.refl _ _).alloc (Nat.le_refl _) _
  have q3 := (show Box3 w3 w2.heap.size (.slice (some ⟨g0, 0, none⟩) 6 d0) (.slice (some ⟨g1, 0, none⟩) 6 d1) (.slice (some ⟨g2, 0, none⟩) 36 d2) by rw [hw3]; exact Box3.made _ _ _ _ _)
  have HW3 := Lib.hid hw3
  have HO := Lib.hid (And.intro o0 (And.intro o1 o2))
  have HOH := Lib.hid oh
  have HB3 := Lib.hid b3
  have HQ3 := Lib.hid q3
  have HS3 := Lib.hid s3
  clear hw3 o0 o1 o2 oh b3 q3 s3
  go_wp2_with fail
  rw [← HW3.out]
  refine (specUnitCost_any w3).mono ?_
  intro e w4 hU
  obtain ⟨z0, z1, z2, e0, e1, e2, rfl, p0, p1, p2, ⟨pa, pb, pc⟩, ⟨pl0, pl1, pl2⟩, ⟨pu0, pu1, pu2⟩, ph⟩ := own6 hU
  clear hU
  obtain ⟨w5, hw5⟩ : ∃ w5, w5 = w4.alloc (.cells #[.slice (some ⟨z0, 0, none⟩) 6 e0, .slice (some ⟨z1, 0, none⟩) 6 e1, .slice (some ⟨z2, 0, none⟩) 36 e2] 27) := ⟨_, rfl⟩
  have s5 : w5.heap.size = w4.heap.size + 1 := by rw [hw5]; simp
  have b5 : Below w4.heap.size w4 w5 := by rw [hw5]; exact (Below.refl _ _).alloc (Nat.le_refl _) _
  have q5 := (show Box3 w5 w4.heap.size (.slice (some ⟨z0, 0, none⟩) 6 e0) (.slice (some ⟨z1, 0, none⟩) 6 e1) (.slice (some ⟨z2, 0, none⟩) 36 e2) by rw [hw5]; exact Box3.made _ _ _ _ _)
  have HW5 := Lib.hid hw5
  have t2 := HOH.out.size
  have t3 := HS3.out
  have t4 := ph.size
  obtain ⟨o0, o1, o2⟩ := HO.out
  have b35 : Below w3.heap.size w3 w5 := ph.trans (b5.mono t4)
  have G0 := Lib.hid (show ScG wa.heap.size ⟨g0, d0, g1, d1, g2, d2, z0, e0, z1, e1, z2, e2, w2.heap.size, w4.heap.size⟩ (List.replicate 6 1) (List.replicate 6 1) (Zs.mix (fun z => 3 * z) Co.unit.r 0) (List.replicate 6 1) (List.replicate 6 1) (Zs.mix (fun _ => 0) Co.unit.r 0) wa w5 by
    rw [Zs.mix_zero, Zs.mix_zero]
    exact ⟨own_below (own_below o0 HB3.out) b35, own_below (own_below o1 HB3.out) b35, own_below (own_below o2 HB3.out) b35, own_base (own_below p0 b5) (by omega), own_base (own_below p1 b5) (by omega), own_base (own_below p2 b5) (by omega),
      ⟨oa, ob, by show g0 ≠ z0; omega, by show g0 ≠ z1; omega, by show g0 ≠ z2; omega, oc, by show g1 ≠ z0; omega, by show g1 ≠ z1; omega, by show g1 ≠ z2; omega, by show g2 ≠ z0; omega, by show g2 ≠ z1; omega, by show g2 ≠ z2; omega, pa, pb, pc⟩,
      ⟨by show g0 ≠ w2.heap.size; omega, by show g0 ≠ w4.heap.size; omega, by show g1 ≠ w2.heap.size; omega, by show g1 ≠ w4.heap.size; omega, by show g2 ≠ w2.heap.size; omega, by show g2 ≠ w4.heap.size; omega, by show z0 ≠ w2.heap.size; omega, by show z0 ≠ w4.heap.size; omega, by show z1 ≠ w2.heap.size; omega, by show z1 ≠ w4.heap.size; omega, by show z2 ≠ w2.heap.size; omega, by show z2 ≠ w4.heap.size; omega⟩,
      HQ3.out.below b35 (by omega), q5, ⟨ol0, ol1, ol2, by show wa.heap.size ≤ z0; omega, by show wa.heap.size ≤ z1; omega, by show wa.heap.size ≤ z2; omega⟩, HOH.out.trans ((HB3.out.mono t2).trans (b35.mono (by omega)))⟩)
  clear hw5 s5 b5 q5 t2 t3 t4 o0 o1 o2 b35 p0 p1 p2 pa pb pc pl0 pl1 pl2 pu0 pu1 pu2 ph oa ob oc ol0 ol1 ol2 ou0 ou1 ou2 HOH HB3 HQ3 HO
  have HR := Lib.hid Co.unit_r_len
  have HRB := Lib.hid Co.unit_r_bd
  obtain ⟨rs, hrs⟩ : ∃ r, r = Co.unit.r := ⟨_, rfl⟩
  rw [← hrs] at G0 HR HRB
  have HRS := Lib.hid hrs
  clear hrs
  go_wp2
  rw [← HW5.out]
  go_loopw [8] (fun iv wr => ∃ i : Nat, i ≤ 36 ∧ iv = .int .i64 i ∧ ScG wa.heap.size ⟨g0, d0, g1, d1, g2, d2, z0, e0, z1, e1, z2, e2, w2.heap.size, w4.heap.size⟩ (List.replicate 6 1) (List.replicate 6 1) (Zs.mix (fun z => 3 * z) rs i) (List.replicate 6 1) (List.replicate 6 1) (Zs.mix (fun _ => 0) rs i) wa wr) (fun i _ => 36 - (intOf i).toNat)
  case atStart => exact ⟨0, by omega, rfl, G0.out⟩
  case round =>
    obtain ⟨i, hi, rfl, hG⟩ := hrel
    have HG := Lib.hid hG
    clear hG
    have kb : wr.cell? ⟨w2.heap.size, 2, none⟩ = some (.slice (some ⟨g2, 0, none⟩) 36 d2) := HG.out.bk.2.2
    by_cases hlt : i < 36
    · have hb := HRB.out i hlt
      obtain ⟨v, hv⟩ : ∃ v, v = Zs.at rs i := ⟨_, rfl⟩
      rw [← hv] at hb
      have kc := own_int HG.out.k2 (k := i) (by rw [Zs.mix_length, HR.out]; exact hlt)
      rw [Zs.mix_at _ _ (by rw [HR.out]; exact hlt), ← hv] at kc
      have i0 : (0 : Int) ≤ (i : Int) := by omega
      have i1 : (i : Int) < 36 := by omega
      have a1 : IntKind.i64.wrap (3 * v) = 3 * v := Kit.w64 (by omega) (by omega)
      have HV := Lib.hid hv
      clear hv
      go_wp2_with fail
      go_still_tail 10, (by kernel_rfl)
      change wpList _ _ _ _ _ wr.drew
      have HD := Lib.hid (HG.out.drawn (Drawn.refl _).drew)
      clear kb kc
      generalize wr.drew = wd at HD ⊢
      have H1 := Lib.hid (HD.out.setk2 i (3 * v))
      have kc : wd.cell? ⟨g2, i, none⟩ = some (.int .i64 _) := own_int HD.out.k2 (k := i) (by rw [Zs.mix_length, HR.out]; exact hlt)
      have kf : wd.frozen? ⟨g2, i, none⟩ = false := HD.out.k2.frozenAt i
      have zb : (wd.setCell ⟨g2, i, none⟩ (.int .i64 (3 * v))).cell? ⟨w4.heap.size, 2, none⟩ = some (.slice (some ⟨z2, 0, none⟩) 36 e2) := H1.out.bz.2.2
      have zc : (wd.setCell ⟨g2, i, none⟩ (.int .i64 (3 * v))).cell? ⟨z2, i, none⟩ = some (.int .i64 _) := own_int H1.out.z2 (k := i) (by rw [Zs.mix_length, HR.out]; exact hlt)
      have zf : (wd.setCell ⟨g2, i, none⟩ (.int .i64 (3 * v))).frozen? ⟨z2, i, none⟩ = false := H1.out.z2.frozenAt i
      go_wp2
      go_roundw
      case rel =>
        refine ⟨i + 1, by omega, by go_num, ?_⟩
        rw [← Zs.mix_succ (fun z => 3 * z) rs (by rw [HR.out]; exact hlt), ← Zs.mix_succ (fun _ => 0) rs (by rw [HR.out]; exact hlt)]
        rw [← HV.out]
        exact H1.out.setz2 i 0
      case measure => simp [intOf]; omega
    · obtain rfl : i = 36 := by omega
      go_wp2
      go_loopw [9] (fun iv wr => ∃ i : Nat, i ≤ 6 ∧ iv = .int .i64 i ∧ ScG wa.heap.size ⟨g0, d0, g1, d1, g2, d2, z0, e0, z1, e1, z2, e2, w2.heap.size, w4.heap.size⟩ (Zs.mix (fun _ => 3) (List.replicate 6 1) i) (Zs.mix (fun _ => 3) (List.replicate 6 1) i) (Zs.mix (fun z => 3 * z) rs 36) (Zs.mix (fun _ => 0) (List.replicate 6 1) i) (Zs.mix (fun _ => 0) (List.replicate 6 1) i) (Zs.mix (fun _ => 0) rs 36) wa wr) (fun i _ => 6 - (intOf i).toNat)
      case atStart => exact ⟨0, by omega, rfl, by rw [Zs.mix_zero, Zs.mix_zero]; exact HG.out⟩
      case round =>
        clear HG kb hlt
        obtain ⟨i, hi, rfl, hG⟩ := hrel
        have HG := Lib.hid hG
        clear hG
        have kb : wr.cell? ⟨w2.heap.size, 0, none⟩ = some (.slice (some ⟨g0, 0, none⟩) 6 d0) := HG.out.bk.1
        by_cases hlt : i < 6
        · have i0 : (0 : Int) ≤ (i : Int) := by omega
          have i1 : (i : Int) < 6 := by omega
          have kc : wr.cell? ⟨g0, i, none⟩ = some (.int .i64 _) := own_int HG.out.k0 (k := i) (by rw [Zs.mix_length]; exact hlt)
          have kf : wr.frozen? ⟨g0, i, none⟩ = false := HG.out.k0.frozenAt i
          have H1 := Lib.hid (HG.out.setk0 i 3)
          have lb : (wr.setCell ⟨g0, i, none⟩ (.int .i64 3)).cell? ⟨w2.heap.size, 1, none⟩ = some (.slice (some ⟨g1, 0, none⟩) 6 d1) := H1.out.bk.2.1
          have lc : (wr.setCell ⟨g0, i, none⟩ (.int .i64 3)).cell? ⟨g1, i, none⟩ = some (.int .i64 _) := own_int H1.out.k1 (k := i) (by rw [Zs.mix_length]; exact hlt)
          have lf : (wr.setCell ⟨g0, i, none⟩ (.int .i64 3)).frozen? ⟨g1, i, none⟩ = false := H1.out.k1.frozenAt i
          have H2 := Lib.hid (H1.out.setk1 i 3)
          have mb : ((wr.setCell ⟨g0, i, none⟩ (.int .i64 3)).setCell ⟨g1, i, none⟩ (.int .i64 3)).cell? ⟨w4.heap.size, 0, none⟩ = some (.slice (some ⟨z0, 0, none⟩) 6 e0) := H2.out.bz.1
          have mc : ((wr.setCell ⟨g0, i, none⟩ (.int .i64 3)).setCell ⟨g1, i, none⟩ (.int .i64 3)).cell? ⟨z0, i, none⟩ = some (.int .i64 _) := own_int H2.out.z0 (k := i) (by rw [Zs.mix_length]; exact hlt)
          have mf : ((wr.setCell ⟨g0, i, none⟩ (.int .i64 3)).setCell ⟨g1, i, none⟩ (.int .i64 3)).frozen? ⟨z0, i, none⟩ = false := H2.out.z0.frozenAt i
          have H3 := Lib.hid (H2.out.setz0 i 0)
          have nb : (((wr.setCell ⟨g0, i, none⟩ (.int .i64 3)).setCell ⟨g1, i, none⟩ (.int .i64 3)).setCell ⟨z0, i, none⟩ (.int .i64 0)).cell? ⟨w4.heap.size, 1, none⟩ = some (.slice (some ⟨z1, 0, none⟩) 6 e1) := H3.out.bz.2.1
          have nc : (((wr.setCell ⟨g0, i, none⟩ (.int .i64 3)).setCell ⟨g1, i, none⟩ (.int .i64 3)).setCell ⟨z0, i, none⟩ (.int .i64 0)).cell? ⟨z1, i, none⟩ = some (.int .i64 _) := own_int H3.out.z1 (k := i) (by rw [Zs.mix_length]; exact hlt)
          have nf : (((wr.setCell ⟨g0, i, none⟩ (.int .i64 3)).setCell ⟨g1, i, none⟩ (.int .i64 3)).setCell ⟨z0, i, none⟩ (.int .i64 0)).frozen? ⟨z1, i, none⟩ = false := H3.out.z1.frozenAt i
          go_wp2
          go_roundw
          case rel =>
            refine ⟨i + 1, by omega, by go_num, ?_⟩
            rw [← Zs.mix_succ (fun _ => 3) (List.replicate 6 1) (by exact hlt), ← Zs.mix_succ (fun _ => 0) (List.replicate 6 1) (by exact hlt)]
            exact H3.out.setz1 i 0
          case measure => simp [intOf]; omega
        · obtain rfl : i = 6 := by omega
          have GE := Lib.hid (show ScG wa.heap.size ⟨g0, d0, g1, d1, g2, d2, z0, e0, z1, e1, z2, e2, w2.heap.size, w4.heap.size⟩ Co.three.d Co.three.i Co.three.r Co.zero.d Co.zero.i Co.zero.r wa wr by
            have := HG.out
            have m1 : Zs.mix (fun _ => (3 : Int)) (List.replicate 6 1) 6 = (List.replicate 6 1).map (fun _ => 3) := Zs.mix_all _ (List.replicate 6 1)
            have m2 : Zs.mix (fun _ => (0 : Int)) (List.replicate 6 1) 6 = (List.replicate 6 1).map (fun _ => 0) := Zs.mix_all _ (List.replicate 6 1)
            have m3 := Zs.mix_all (fun z : Int => 3 * z) rs
            have m4 := Zs.mix_all (fun _ : Int => (0 : Int)) rs
            rw [HR.out] at m3 m4
            rw [m1, m2, m3, m4, HRS.out] at this
            exact this)
          clear HG hlt HR HRB HRS HW3 HS3
          go_wp2_with fail
          clear kb
          refine (implUnitCost_any wr).mono ?_
          intro e w6 hU
          obtain ⟨u0, u1, u2, f0, f1, f2, rfl, r0, r1, r2, _, _, _, hb6⟩ := own6 hU
          clear hU
          have B6 := Lib.hid (GE.out.bl.trans (hb6.mono GE.out.bl.size))
          have KU := Lib.hid (show CoIn w6 w6.heap.size (some ⟨u0, 0, none⟩) (some ⟨u1, 0, none⟩) (some ⟨u2, 0, none⟩) 6 6 36 Co.unit from ⟨IntIn.of_own r0, IntIn.of_own r1, IntIn.of_own r2⟩)
          have K3 := Lib.hid (show CoIn w6 w6.heap.size (some ⟨g0, 0, none⟩) (some ⟨g1, 0, none⟩) (some ⟨g2, 0, none⟩) 6 6 36 Co.three from ⟨IntIn.of_own (own_below GE.out.k0 hb6), IntIn.of_own (own_below GE.out.k1 hb6), IntIn.of_own (own_below GE.out.k2 hb6)⟩)
          have K0 := Lib.hid (show CoIn w6 w6.heap.size (some ⟨z0, 0, none⟩) (some ⟨z1, 0, none⟩) (some ⟨z2, 0, none⟩) 6 6 36 Co.zero from ⟨IntIn.of_own (own_below GE.out.z0 hb6), IntIn.of_own (own_below GE.out.z1 hb6), IntIn.of_own (own_below GE.out.z2 hb6)⟩)
          have cc : ∀ {p : Addr} {v : Value}, wr.cell? p = some v → w6.cell? p = some v := fun hc => (hb6.cell (World.block_lt_of_cell? _ _ hc)).trans hc
          have Q3 := Lib.hid (show Box3 w6 w2.heap.size (.slice (some ⟨g0, 0, none⟩) 6 d0) (.slice (some ⟨g1, 0, none⟩) 6 d1) (.slice (some ⟨g2, 0, none⟩) 36 d2) from ⟨cc GE.out.bk.1, cc GE.out.bk.2.1, cc GE.out.bk.2.2⟩)
          have Q0 := Lib.hid (show Box3 w6 w4.heap.size (.slice (some ⟨z0, 0, none⟩) 6 e0) (.slice (some ⟨z1, 0, none⟩) 6 e1) (.slice (some ⟨z2, 0, none⟩) 36 e2) from ⟨cc GE.out.bz.1, cc GE.out.bz.2.1, cc GE.out.bz.2.2⟩)
          have HN0 := Lib.hid (HN0.out.to_below B6.out)
          have HN1 := Lib.hid (HN1.out.to_below B6.out)
          have HK := Lib.hid (HK.out.to_below B6.out)
          have cw : ∀ {p : Addr} {v : Value}, wa.cell? p = some v → w6.cell? p = some v := fun hc => (B6.out.cell (World.block_lt_of_cell? _ _ hc)).trans hc
          have QC := Lib.hid (show Box3 w6 w1.heap.size (.slice (some ⟨h0, 0, none⟩) 6 c0) (.slice A1 n1 q1) (.slice (some ⟨h2, 0, none⟩) 36 c2) from ⟨cw HQ.out.1, cw HQ.out.2.1, cw HQ.out.2.2⟩)
          have HW := Lib.hid (HW.out.trans (B6.out.mono HW.out.size))
          clear cc cw r0 r1 r2 hb6 GE HQ B6 Hwa HW5
          obtain ⟨X, hX⟩ : ∃ X, X = Tr.rootDist xs ys Co.unit := ⟨_, rfl⟩
          have HX := Lib.hid hX
          clear hX
          go_wp2_with fail
          refine (implRootDist_any (c := _) (c' := _) (c0 := _) (c1 := _) (c2 := _) (ha := HN0.out) (hb := HN1.out) (hk := KU.out) (hn := hs0) (hn' := hs1) (h0 := by decide) (h1 := by decide) (h2 := by decide) (hc := hcp) (hc' := hcp')).mono ?_
          rintro e w7 ⟨rfl, hb7⟩
          rw [← HX.out]
          have B7 := Lib.hid hb7
          have HW7 := Lib.hid (HW.out.trans (hb7.mono HW.out.size))
          clear hb7
          cases hx : Tr.ok xs with
          | false =>
            have hXn : X = -1 := by rw [HX.out]; exact Tr.rootDist_no (by rw [hx]; rfl)
            have OX := Lib.hid hx
            clear hx
            have x1 : decide (X < 0) = true := decide_eq_true (by omega)
            as_aux_lemma =>
              clear hXn
              go_wp2_with fail
              refine (specTreeOk_any _ _ _ xs _ (HN0.out.to_below B7.out) hs0).mono ?_
              rintro e v0 ⟨rfl, hd⟩
              have HW := Lib.hid (Drawn.below HW7.out hd)
              clear hd
              rw [OX.out]
              go_wp2
              go_ret
              exact ⟨rfl, HW.out⟩
          | true =>
            cases hy : Tr.ok ys with
            | false =>
              have hXn : X = -1 := by rw [HX.out]; exact Tr.rootDist_no (by rw [hx, hy]; rfl)
              have OX := Lib.hid hx
              have OY := Lib.hid hy
              clear hx hy
              have x1 : decide (X < 0) = true := decide_eq_true (by omega)
              as_aux_lemma =>
                clear hXn
                go_wp2_with fail
                refine (specTreeOk_any _ _ _ xs _ (HN0.out.to_below B7.out) hs0).mono ?_
                rintro e v0 ⟨rfl, hd⟩
                have HW := Lib.hid (Drawn.below HW7.out hd)
                have N1 := Lib.hid ((HN1.out.to_below B7.out).to_drawn hd)
                clear hd
                rw [OX.out]
                go_wp2_with fail
                refine (specTreeOk_any _ _ _ ys _ N1.out hs1).mono ?_
                rintro e v1 ⟨rfl, hd⟩
                have HW := Lib.hid (Drawn.below HW.out hd)
                clear hd
                rw [OY.out]
                go_wp2
                go_ret
                exact ⟨rfl, HW.out⟩
            | true =>
              have hT := Tr.triangle hx hy hx
              have bX1 : 0 ≤ X := by rw [HX.out]; exact hT.1
              have bX2 : X ≤ 48 := by rw [HX.out]; exact hT.2.1
              have E3 := Lib.hid (show Tr.rootDist xs ys Co.three = 3 * X by rw [HX.out]; exact Tr.root_three hx hy)
              have E0 := Lib.hid (show Tr.rootDist xs ys Co.zero = 0 from Tr.root_zero hx hy)
              obtain ⟨R, hR⟩ : ∃ R, R = Tr.rootDist xs ys K := ⟨_, rfl⟩
              have x1 : decide (X < 0) = false := decide_eq_false (by omega)
              have a3 : IntKind.i64.wrap (3 * X) = 3 * X := Kit.w64 (by omega) (by omega)
              have C1 := Lib.hid (fun (wq : World) (hb : Below w7.heap.size w7 wq) => show Calls Try.prog 19 #[.slice A n cp, .slice A' n' cp', .agg #[.slice (some ⟨g0, 0, none⟩) 6 d0, .slice (some ⟨g1, 0, none⟩) 6 d1, .slice (some ⟨g2, 0, none⟩) 36 d2]] wq fun e w' => e = .returned (.int .i64 (3 * X)) ∧ Below wq.heap.size wq w' from by
                rw [← E3.out]
                exact implRootDist_any (c := _) (c' := _) (c0 := _) (c1 := _) (c2 := _) (ha := HN0.out.to_below (B7.out.trans (hb.mono B7.out.size))) (hb := HN1.out.to_below (B7.out.trans (hb.mono B7.out.size))) (hk := K3.out.to_below (B7.out.trans (hb.mono B7.out.size))) (hn := hs0) (hn' := hs1) (h0 := by decide) (h1 := by decide) (h2 := by decide) (hc := hcp) (hc' := hcp'))
              have C2 := Lib.hid (fun (wq : World) (hb : Below w7.heap.size w7 wq) => show Calls Try.prog 19 #[.slice A n cp, .slice A' n' cp', .agg #[.slice (some ⟨z0, 0, none⟩) 6 e0, .slice (some ⟨z1, 0, none⟩) 6 e1, .slice (some ⟨z2, 0, none⟩) 36 e2]] wq fun e w' => e = .returned (.int .i64 0) ∧ Below wq.heap.size wq w' from by
                have := implRootDist_any (c := cp) (c' := cp') (c0 := e0) (c1 := e1) (c2 := e2) (ha := HN0.out.to_below (B7.out.trans (hb.mono B7.out.size))) (hb := HN1.out.to_below (B7.out.trans (hb.mono B7.out.size))) (hk := K0.out.to_below (B7.out.trans (hb.mono B7.out.size))) (hn := hs0) (hn' := hs1) (h0 := by decide) (h1 := by decide) (h2 := by decide) (hc := hcp) (hc' := hcp')
                rw [E0.out] at this
                exact this)
              have C3 := Lib.hid (fun (wq : World) (hb : Below w7.heap.size w7 wq) => show Calls Try.prog 19 #[.slice A n cp, .slice A' n' cp', .agg #[.slice (some ⟨h0, 0, none⟩) 6 c0, .slice A1 n1 q1, .slice (some ⟨h2, 0, none⟩) 36 c2]] wq fun e w' => e = .returned (.int .i64 R) ∧ Below wq.heap.size wq w' from by
                rw [hR]
                exact implRootDist_any (c := _) (c' := _) (c0 := _) (c1 := _) (c2 := _) (ha := HN0.out.to_below (B7.out.trans (hb.mono B7.out.size))) (hb := HN1.out.to_below (B7.out.trans (hb.mono B7.out.size))) (hk := HK.out.to_below (B7.out.trans (hb.mono B7.out.size))) (hn := hs0) (hn' := hs1) (h0 := by decide) (h1 := hN1) (h2 := by decide) (hc := hcp) (hc' := hcp'))
              have C4 := Lib.hid (fun (wq : World) (hb : Below w7.heap.size w7 wq) => show Calls Try.prog 20 #[.slice A n cp, .slice A' n' cp', .agg #[.slice (some ⟨h0, 0, none⟩) 6 c0, .slice A1 n1 q1, .slice (some ⟨h2, 0, none⟩) 36 c2]] wq fun e w' => e = .returned (.int .i64 R) ∧ Below wq.heap.size wq w' from by
                rw [hR]
                exact specRootDist_any (c := _) (c' := _) (c0 := _) (c1 := _) (c2 := _) (ha := HN0.out.to_below (B7.out.trans (hb.mono B7.out.size))) (hb := HN1.out.to_below (B7.out.trans (hb.mono B7.out.size))) (hk := HK.out.to_below (B7.out.trans (hb.mono B7.out.size))) (hn := hs0) (hn' := hs1) (h0 := by decide) (h1 := hN1) (h2 := by decide))
              have f1 : (3 * X == 3 * X) = true := by simp
              have f2 : (R == R) = true := by simp
              have cc : ∀ {p : Addr} {v : Value}, w6.cell? p = some v → w7.cell? p = some v := fun hc => (B7.out.cell (World.block_lt_of_cell? _ _ hc)).trans hc
              have S0 := Lib.hid (show ((w7.drew.cell? ⟨w2.heap.size, 0, none⟩ = some (.slice (some ⟨g0, 0, none⟩) 6 d0) ∧ w7.drew.cell? ⟨w2.heap.size, 1, none⟩ = some (.slice (some ⟨g1, 0, none⟩) 6 d1) ∧ w7.drew.cell? ⟨w2.heap.size, 2, none⟩ = some (.slice (some ⟨g2, 0, none⟩) 36 d2)) ∧ (w7.drew.cell? ⟨w4.heap.size, 0, none⟩ = some (.slice (some ⟨z0, 0, none⟩) 6 e0) ∧ w7.drew.cell? ⟨w4.heap.size, 1, none⟩ = some (.slice (some ⟨z1, 0, none⟩) 6 e1) ∧ w7.drew.cell? ⟨w4.heap.size, 2, none⟩ = some (.slice (some ⟨z2, 0, none⟩) 36 e2)) ∧ w7.drew.cell? ⟨w1.heap.size, 0, none⟩ = some (.slice (some ⟨h0, 0, none⟩) 6 c0) ∧ w7.drew.cell? ⟨w1.heap.size, 1, none⟩ = some (.slice A1 n1 q1) ∧ w7.drew.cell? ⟨w1.heap.size, 2, none⟩ = some (.slice (some ⟨h2, 0, none⟩) 36 c2)) ∧ BelA w7 w7.drew from ⟨⟨⟨cc Q3.out.1, cc Q3.out.2.1, cc Q3.out.2.2⟩, ⟨cc Q0.out.1, cc Q0.out.2.1, cc Q0.out.2.2⟩, cc QC.out.1, cc QC.out.2.1, cc QC.out.2.2⟩, (Drawn.refl _).drew.toBelow⟩)
              clear cc hT bX1 bX2 hR hx hy
              as_aux_lemma =>
                go_wp2_with fail
                go_region_held3 (fun wq => ((wq.cell? ⟨w2.heap.size, 0, none⟩ = some (.slice (some ⟨g0, 0, none⟩) 6 d0) ∧ wq.cell? ⟨w2.heap.size, 1, none⟩ = some (.slice (some ⟨g1, 0, none⟩) 6 d1) ∧ wq.cell? ⟨w2.heap.size, 2, none⟩ = some (.slice (some ⟨g2, 0, none⟩) 36 d2)) ∧ (wq.cell? ⟨w4.heap.size, 0, none⟩ = some (.slice (some ⟨z0, 0, none⟩) 6 e0) ∧ wq.cell? ⟨w4.heap.size, 1, none⟩ = some (.slice (some ⟨z1, 0, none⟩) 6 e1) ∧ wq.cell? ⟨w4.heap.size, 2, none⟩ = some (.slice (some ⟨z2, 0, none⟩) 36 e2)) ∧ wq.cell? ⟨w1.heap.size, 0, none⟩ = some (.slice (some ⟨h0, 0, none⟩) 6 c0) ∧ wq.cell? ⟨w1.heap.size, 1, none⟩ = some (.slice A1 n1 q1) ∧ wq.cell? ⟨w1.heap.size, 2, none⟩ = some (.slice (some ⟨h2, 0, none⟩) 36 c2)) ∧ BelA w7 wq) (first | (with_reducible exact SC) | (with_reducible exact S0.out)) (first | ((go_at_call 19; with_reducible refine (C1.out _ (nn_below (by assumption))).mono ?_); rintro e w5 ⟨rfl, hb5⟩; have SC := nn_keep (by assumption) hb5) | ((go_at_call 19; with_reducible refine (C2.out _ (nn_below (by assumption))).mono ?_); rintro e w5 ⟨rfl, hb5⟩; have SC := nn_keep (by assumption) hb5) | ((go_at_call 19; with_reducible refine (C3.out _ (nn_below (by assumption))).mono ?_); rintro e w5 ⟨rfl, hb5⟩; have SC := nn_keep (by assumption) hb5) | ((go_at_call 20; with_reducible refine (C4.out _ (nn_below (by assumption))).mono ?_); rintro e w5 ⟨rfl, hb5⟩; have SC := nn_keep (by assumption) hb5))
                have HE := Lib.hid (HW7.out.trans ((nn_below SC).mono HW7.out.size))
                go_wp2
                go_ret
                exact ⟨rfl, HE.out⟩

end Go.Proofs.Ytfchmdhlfhoogaa

/- Contracts (ExScaled). -/
namespace Go.Proofs.Ytfchmdhlfhoogaa
open Go.RowKit
set_option linter.unusedVariables false

set_option maxHeartbeats 400000 in
theorem fnScaled_walk (a : Option Addr) (n cap : Nat) (zs : List Int) (w : World) (hz : Kit.BytesIn w a n cap zs) :
    Calls Try.prog 7 #[.slice a n cap] w fun e w' => e = .returned (.bool true) ∧ Below w.heap.size w w' := by
  by_cases hb : (1048576 : Int) < n
  · clear hz
    go_enter Try.func7, Try.ntmps7
    go_wp2_with fail
    refine (big_big _ _ _ hb _).mono ?_
    rintro e w0 ⟨rfl, rfl⟩
    go_wp2
    go_ret
    exact ⟨rfl, Below.refl _ _⟩
  · obtain ⟨hl, hcode⟩ := code_of hz
    have h := scaled_any ⟨a, zs.take n, cap⟩ w hcode (by simp only; omega)
    simp only [hl] at h
    exact h

end Go.Proofs.Ytfchmdhlfhoogaa
