/- Texts of one claim laid into one file, in build order: ForS. -/
import Derived.Test.YtlndaflhlkbedaaMg2
import Derived.Outline
import Derived.StillTailTactics
/- Contracts (ForS). -/
namespace Go.Proofs.Ytlndaflhlkbedaa
open Go.RowKit
set_option linter.unusedVariables false

set_option maxHeartbeats 6400000 in
set_option maxRecDepth 100000 in
theorem l8Forest_any (B gt nm : Nat) (ax ay ala alb k0 k1 k2 : Addr) (cx cy cla clb e0 e1 e2 : Nat) (xs ys : Tr) (k : Co) (T : List Int) (i j : Nat) (w : World)
    (hx : Tr.ok xs = true) (hy : Tr.ok ys = true) (hk : Co.ok k = true) (hi : i < xs.length) (hj : j < ys.length) (hA : Ahead xs ys k i j T) (hnm : nm = xs.length * ys.length)
    (rx : RowOff w gt gt ax xs.length (Tr.lab xs)) (ry : RowOff w gt gt ay ys.length (Tr.lab ys)) (ra : RowOff w gt gt ala xs.length (Zs.up (Tr.lfs xs))) (rb : RowOff w gt gt alb ys.length (Zs.up (Tr.lfs ys)))
    (r0 : RowOff w gt gt k0 6 k.d) (r1 : RowOff w gt gt k1 6 k.i) (r2 : RowOff w gt gt k2 36 k.r) (rt : w.ownsRow B 3 1 (.slice (some ⟨gt, 0, none⟩) nm nm) nm (ints T)) :
    Calls Try.prog 121 #[.agg #[.slice (some ax) xs.length cx, .slice (some ay) ys.length cy, .slice (some ala) xs.length cla, .slice (some alb) ys.length clb, .slice (some k0) 6 e0, .slice (some k1) 6 e1, .slice (some k2) 36 e2], .int .i64 i, .int .i64 j, .slice (some ⟨gt, 0, none⟩) nm nm] w fun e w' =>
      ∃ (hf nf : Nat) (f T' : List Int), e = .returned (.slice (some ⟨hf, 0, none⟩) nf nf) ∧ nf = (i - Tr.la xs i + 2) * (j - Tr.la ys j + 2) ∧ w'.ownsRow w.heap.size 3 1 (.slice (some ⟨hf, 0, none⟩) nf nf) nf (ints f) ∧
        Fill xs ys k i j (i + 1) (Tr.la ys j) (fun a b => Zs.at f (ix (Tr.la xs i) (Tr.la ys j) (j - Tr.la ys j + 2) a b)) T T' ∧ w'.ownsRow B 3 1 (.slice (some ⟨gt, 0, none⟩) nm nm) nm (ints T') ∧
        (∀ p : Addr, p.block < w.heap.size → p.block ≠ gt → w'.cell? p = w.cell? p) ∧ Below B w w' := by
  obtain ⟨hBg, hgw⟩ := rt.lt gt rfl
  obtain ⟨lx, lx'⟩ := Tr.len24 hx
  obtain ⟨ly, ly'⟩ := Tr.len24 hy
  have hpi := (Tr.la_nest hx i hi).1
  have hqj := (Tr.la_nest hy j hj).1
  obtain ⟨p, hp⟩ : ∃ p, p = Tr.la xs i := ⟨_, rfl⟩
  obtain ⟨q, hq⟩ : ∃ q, q = Tr.la ys j := ⟨_, rfl⟩
  rw [← hp] at hpi
  rw [← hq] at hqj
  obtain ⟨W, hW⟩ : ∃ W, W = j - q + 2 := ⟨_, rfl⟩
  obtain ⟨V, hV⟩ : ∃ V, V = i - p + 2 := ⟨_, rfl⟩
  obtain ⟨nf, hnf⟩ : ∃ nf, nf = V * W := ⟨_, rfl⟩
  have hW26 : W ≤ 26 := by omega
  have hV26 : V ≤ 26 := by omega
  have hnf1 : nf ≤ 676 := by rw [hnf]; exact Nat.mul_le_mul hV26 hW26
  have hnm1 : nm ≤ 576 := by rw [hnm]; exact Nat.mul_le_mul lx' ly'
  obtain ⟨wb, hwb⟩ : ∃ wb, wb = w.alloc (.cells #[.slice (some ax) xs.length cx, .slice (some ay) ys.length cy, .slice (some ala) xs.length cla, .slice (some alb) ys.length clb, .slice (some k0) 6 e0, .slice (some k1) 6 e1, .slice (some k2) 36 e2] 138) := ⟨_, rfl⟩
  obtain ⟨hf, hhf⟩ : ∃ hf, hf = wb.heap.size := ⟨_, rfl⟩
  have hfw : hf = w.heap.size + 1 := by rw [hhf, hwb]; simp
  have RX := Lib.hid (show RowOff wb gt gt ax xs.length (Tr.lab xs) by rw [hwb]; exact rx.made)
  have RY := Lib.hid (show RowOff wb gt gt ay ys.length (Tr.lab ys) by rw [hwb]; exact ry.made)
  have RA := Lib.hid (show RowOff wb gt gt ala xs.length (Zs.up (Tr.lfs xs)) by rw [hwb]; exact ra.made)
  have RB := Lib.hid (show RowOff wb gt gt alb ys.length (Zs.up (Tr.lfs ys)) by rw [hwb]; exact rb.made)
  have R0 := Lib.hid (show RowOff wb gt gt k0 6 k.d by rw [hwb]; exact r0.made)
  have R1 := Lib.hid (show RowOff wb gt gt k1 6 k.i by rw [hwb]; exact r1.made)
  have R2 := Lib.hid (show RowOff wb gt gt k2 36 k.r by rw [hwb]; exact r2.made)
  have HZ := Lib.hid (Nat.le_of_eq hhf.symm)
  have c0 : wb.cell? ⟨w.heap.size, 0, none⟩ = some (.slice (some ax) xs.length cx) := by rw [hwb]; simp
  have c1 : wb.cell? ⟨w.heap.size, 1, none⟩ = some (.slice (some ay) ys.length cy) := by rw [hwb]; simp
  have c2 : wb.cell? ⟨w.heap.size, 2, none⟩ = some (.slice (some ala) xs.length cla) := by rw [hwb]; simp
  have c3 : wb.cell? ⟨w.heap.size, 3, none⟩ = some (.slice (some alb) ys.length clb) := by rw [hwb]; simp
  have c4 : wb.cell? ⟨w.heap.size, 4, none⟩ = some (.slice (some k0) 6 e0) := by rw [hwb]; simp
  have c5 : wb.cell? ⟨w.heap.size, 5, none⟩ = some (.slice (some k1) 6 e1) := by rw [hwb]; simp
  have c6 : wb.cell? ⟨w.heap.size, 6, none⟩ = some (.slice (some k2) 36 e2) := by rw [hwb]; simp
  have C := Lib.hid (And.intro c0 (And.intro c1 (And.intro c4 (And.intro c5 c6))))
  have l1 := (RA.out.at_ i hi).trans (by rw [Tr.la_up hx hi, ← hp])
  have l2 := (RB.out.at_ j hj).trans (by rw [Tr.la_up hy hj, ← hq])
  have l1' : (w.alloc (.cells #[.slice (some ax) xs.length cx, .slice (some ay) ys.length cy, .slice (some ala) xs.length cla, .slice (some alb) ys.length clb, .slice (some k0) 6 e0, .slice (some k1) 6 e1, .slice (some k2) 36 e2] 138)).cell? (ala.add i) = some (.int .i64 (p : Int)) := by rw [← hwb]; exact l1
  have l2' : (w.alloc (.cells #[.slice (some ax) xs.length cx, .slice (some ay) ys.length cy, .slice (some ala) xs.length cla, .slice (some alb) ys.length clb, .slice (some k0) 6 e0, .slice (some k1) 6 e1, .slice (some k2) 36 e2] 138)).cell? (alb.add j) = some (.int .i64 (q : Int)) := by rw [← hwb]; exact l2
  have HWB := Lib.hid hwb
  have HHF := Lib.hid hhf
  have KB0 := Lib.hid (show ∀ a : Addr, a.block < w.heap.size → wb.cell? a = w.cell? a from fun a ha => by rw [hwb]; exact World.cell?_alloc_lt w _ a ha)
  have BL0 := Lib.hid (show Below B w wb by rw [hwb]; exact (Below.refl _ _).alloc (by omega) _)
  have RT := Lib.hid (show wb.ownsRow B 3 1 (.slice (some ⟨gt, 0, none⟩) nm nm) nm (ints T) by rw [hwb]; exact rt.alloc _)
  obtain ⟨i0, hi0, hz0, hz1, hz2⟩ := info_parts info_intZ
  have Hi := Lib.hid hi0
  have HX := Lib.hid hx
  have HY := Lib.hid hy
  have HK := Lib.hid hk
  have HA := Lib.hid hA
  have HP := Lib.hid hp
  have HQ := Lib.hid hq
  have hWa : j - q + 2 ≤ W := by omega
  have hVa : i - p + 2 ≤ V := by omega
  have HW := Lib.hid hW
  have HV := Lib.hid hV
  have HNF := Lib.hid hnf
  have HNM := Lib.hid hnm
  have ZZ := Lib.hid (RR_zero (xs := xs) (ys := ys) (k := k) (i := i) (j := j))
  have ZL := Lib.hid (fun x a b => RR_left (xs := xs) (ys := ys) (k := k) (i := i) (j := j) (x := x) hx hi a b)
  have ZR := Lib.hid (fun y a b => RR_right (xs := xs) (ys := ys) (k := k) (i := i) (j := j) (y := y) hy hj a b)
  have BL := Lib.hid (fun x (a1 : Tr.la xs i ≤ x) (a2 : x ≤ i) => RR_bound (k := k) hx hy (p := Tr.la xs i) (a := x) (q := Tr.la ys j) (b := Tr.la ys j) a1 (by omega) (Nat.le_refl _) (by omega))
  have BR := Lib.hid (fun y (a1 : Tr.la ys j ≤ y) (a2 : y ≤ j) => RR_bound (k := k) hx hy (p := Tr.la xs i) (a := Tr.la xs i) (q := Tr.la ys j) (b := y) (Nat.le_refl _) (by omega) a1 (by omega))
  rw [← hp, ← hq] at ZZ ZL ZR BL BR ⊢
  rw [← hW]
  have eW : (j : Int) - (q : Int) + 2 = (W : Int) := by omega
  have eV : (i : Int) - (p : Int) + 2 = (V : Int) := by omega
  have wVW : IntKind.i64.wrap (((i : Int) - (p : Int) + 2) * ((j : Int) - (q : Int) + 2)) = (nf : Int) := by rw [eV, eW, show (V : Int) * (W : Int) = (nf : Int) by rw [hnf, Int.natCast_mul], Kit.w64 (by omega) (by omega)]
  have b1 : (0 : Int) ≤ (i : Int) := by omega
  have b2 : (i : Int) < (xs.length : Int) := by omega
  have b3 : (0 : Int) ≤ (j : Int) := by omega
  have b4 : (j : Int) < (ys.length : Int) := by omega
  have EW := Lib.hid eW
  have EV := Lib.hid eV
  have HVW := Lib.hid wVW
  have FRM := Lib.hid (show L8 B gt hf nf nm ax ay ala alb k0 k1 k2 cx cy e0 e1 e2 xs ys k i j p q W V T w wb from ⟨hx, hy, hk, hi, hj, hA, hp, hq, hW, hV, hnf, hnm, lx', ly', hpi, hqj, by omega, hgw, hBg, HZ.out, RX.out, RY.out, RA.out, RB.out, R0.out, R1.out, R2.out, c0, c1, c4, c5, c6⟩)
  clear rx ry ra rb r0 r1 r2 rt hx hy hk hA hp hq hW hV hnf hnm hwb hhf c0 c1 c4 c5 c6 hi0 eW eV
  go_enter Try.func121, Try.ntmps121
  go_wp2_with (at_make; go_loud (refine wpList_make_full _ rfl _ _ 25 rfl hf 3 i0 (.int .i64 0) 1 Try.underlying25 Hi.out hz0 hz1 _ _ _ _ nf rfl rfl rfl rfl (by rw [hz2]; omega) (by unfold maxLen; omega) (by rw [← HWB.out]; exact Nat.le_of_eq HHF.out) ?_); intro w2 hown2 hgrow2; have hb2a := (Below.refl _ _).grown hgrow2 (Nat.le_refl _) (fun _ h => by cases h); have l1w := (hb2a.cell (p := ala.add i) (by rw [block_of_add, ← HWB.out]; exact RA.out.lt)).trans l1')
  rw [← HWB.out] at hown2 hgrow2
  rw [← HHF.out] at hown2
  rw [← hfw]
  rw [made_zeros 0 nf] at hown2
  have h8 : F8 B gt hf nf nm w wb (List.replicate nf 0) T w2 := by
    have hb2 : Below hf wb w2 := (Below.refl _ wb).grown hgrow2 (Nat.le_of_eq HHF.out) (fun _ h => by cases h)
    exact ⟨fun a h1 _ => hb2.cell h1, hown2, World.ownsRow.kept RT.out hgrow2 (.inr (fun h => by cases h)), BL0.out.trans (hb2.mono (by omega))⟩
  have H8 := Lib.hid h8
  have hfl : w.heap.size < hf := by omega
  clear hown2 hgrow2 h8 wVW l1' l2' hb2a l1w hfw
  rw [EW.out]
  go_loopw [14] (fun xv wr => ∃ (x : Nat) (f : List Int), p ≤ x ∧ x ≤ i + 1 ∧ xv = .int .i64 x ∧ F8 B gt hf nf nm w wb f T wr ∧ ∀ a, p ≤ a → a ≤ x → Zs.at f (ix p q W a q) = RR xs ys k p a q q) (fun x _ => i + 1 - (intOf x).toNat)
  case atStart => exact ⟨p, _, Nat.le_refl _, by omega, rfl, H8.out, fun a a1 a2 => by
    have e : a = p := by omega
    rw [e, ZZ.out]
    unfold Zs.at
    rw [List.getD_eq_getElem?_getD, List.getElem?_replicate]
    split <;> rfl⟩
  case round =>
    clear H8 RT
    obtain ⟨x, f, hpx, hxi, rfl, h8, hF⟩ := hrel
    have HF := Lib.hid h8
    have HE := Lib.hid hF
    clear h8 hF
    have pa : wr.cell? (ala.add i) = some (.int .i64 (p : Int)) := by rw [HF.out.row RA.out (Nat.lt_of_lt_of_le RA.out.lt HZ.out) (k := i) hi, Tr.la_up HX.out hi, ← HP.out]
    by_cases hlt : x ≤ i
    · as_aux_lemma =>
        obtain ⟨u, hu, eu⟩ := Tr.xa_lab HX.out (p := x) (by omega)
        have xl : wr.cell? (ax.add x) = some (.int .i64 (u : Int)) := by rw [HF.out.row RX.out (Nat.lt_of_lt_of_le RX.out.lt HZ.out) (k := x) (by omega), ← eu]; rfl
        obtain ⟨z, zu⟩ : ∃ z, z = Zs.at k.d u := ⟨_, rfl⟩
        have dd : wr.cell? (k0.add u) = some (.int .i64 (Zs.at k.d u)) := HF.out.row R0.out (Nat.lt_of_lt_of_le R0.out.lt HZ.out) (k := u) hu
        rw [← zu] at dd
        have gx := (HF.out.kb ⟨w.heap.size, 0, none⟩ (by show w.heap.size < hf; omega) (by show w.heap.size ≠ gt; omega)).trans C.out.1
        have gy := (HF.out.kb ⟨w.heap.size, 1, none⟩ (by show w.heap.size < hf; omega) (by show w.heap.size ≠ gt; omega)).trans C.out.2.1
        have gd := (HF.out.kb ⟨w.heap.size, 4, none⟩ (by show w.heap.size < hf; omega) (by show w.heap.size ≠ gt; omega)).trans C.out.2.2.1
        have gi := (HF.out.kb ⟨w.heap.size, 5, none⟩ (by show w.heap.size < hf; omega) (by show w.heap.size ≠ gt; omega)).trans C.out.2.2.2.1
        have gr := (HF.out.kb ⟨w.heap.size, 6, none⟩ (by show w.heap.size < hf; omega) (by show w.heap.size ≠ gt; omega)).trans C.out.2.2.2.2
        obtain ⟨r1, hr1⟩ : ∃ r1, r1 = x - p := ⟨_, rfl⟩
        obtain ⟨r, hr⟩ : ∃ r, r = r1 + 1 := ⟨_, rfl⟩
        obtain ⟨u1, hu1⟩ : ∃ u1, u1 = ix p q W x q := ⟨_, rfl⟩
        obtain ⟨u2, hu2⟩ : ∃ u2, u2 = ix p q W (x + 1) q := ⟨_, rfl⟩
        have lt1 : u1 < nf := by rw [hu1, HNF.out, HV.out, HW.out]; exact ix_lt (by omega) (by omega) hpi hqj
        have lt2 : u2 < nf := by rw [hu2, HNF.out, HV.out, HW.out]; exact ix_lt (by omega) (by omega) hpi hqj
        have e1 : u1 = r1 * W := by rw [hu1, hr1]; unfold ix; omega
        have e2 : u2 = r * W := by rw [hu2, hr, hr1]; unfold ix; rw [show x + 1 - p = x - p + 1 by omega]; omega
        have m1 : (r1 : Int) * (W : Int) = (u1 : Int) := by rw [e1, Int.natCast_mul]
        have m2 : (r : Int) * (W : Int) = (u2 : Int) := by rw [e2, Int.natCast_mul]
        have w1 : IntKind.i64.wrap ((r1 : Int) * (W : Int)) = (u1 : Int) := by rw [m1, Kit.w64 (by omega) (by omega)]
        have w2' : IntKind.i64.wrap ((r : Int) * (W : Int)) = (u2 : Int) := by rw [m2, Kit.w64 (by omega) (by omega)]
        have d1 : (r : Int) - 1 = (r1 : Int) := by omega
        have wd1 : IntKind.i64.wrap ((r : Int) - 1) = (r1 : Int) := by rw [d1]; exact Kit.w64 (by omega) (by omega)
        have ER := Lib.hid (show (x : Int) - (p : Int) + 1 = (r : Int) by omega)
        have gf := own_int HF.out.rf (k := u1) (by rw [HF.out.flen]; exact lt1)
        have gs := own_int HF.out.rf (k := u2) (by rw [HF.out.flen]; exact lt2)
        have fs := HF.out.rf.frozenAt u2
        rw [hu1, HE.out x hpx (Nat.le_refl _), ← hu1] at gf
        have bd := BL.out x hpx hlt
        have n1 := (Co.nonneg' k).1 (Tr.xa xs x)
        have Hz := Lib.hid (show RR xs ys k p x q q + z = RR xs ys k p (x + 1) q q by rw [ZL.out x hpx hlt, eu, Co.del_at HK.out hu, zu])
        rw [eu, Co.del_at HK.out hu, ← zu] at n1
        have HU2 := Lib.hid hu2
        have r24 : r1 ≤ 24 := by omega
        have r25 : r ≤ 25 := by omega
        have v1 : IntKind.i64.wrap (r1 : Int) = (r1 : Int) := Kit.w64 (by omega) (by omega)
        have v2 : IntKind.i64.wrap (RR xs ys k p x q q + z) = RR xs ys k p x q q + z := Kit.w64 (by omega) (by omega)
        have kk1 : (0 : Int) ≤ (x : Int) := by omega
        have kk2 : (x : Int) < (xs.length : Int) := by omega
        have kk3 : (0 : Int) ≤ (u : Int) := by omega
        have kk4 : (u : Int) < 6 := by omega
        have kk5 : (0 : Int) ≤ (u1 : Int) := by omega
        have kk6 : (u1 : Int) < (nf : Int) := by omega
        have kk7 : (0 : Int) ≤ (u2 : Int) := by omega
        have kk8 : (u2 : Int) < (nf : Int) := by omega
        clear eu zu hr1 hr hu1 hu2 e1 e2 m1 m2
        go_wp2_with fail
        rw [ER.out]
        go_still_tail 23, (by kernel_rfl)
        change wpList _ _ _ _ _ wr.drew
        go_wp2
        go_roundw
        case rel =>
          refine ⟨x + 1, _, by omega, by omega, by go_num, (HF.out.drawn (Drawn.refl _).drew).setf (by omega) (by omega) u2 _, fun a a1 a2 => ?_⟩
          rw [Zs.at_set (by rw [HF.out.flen]; exact lt2)]
          by_cases e : a = x + 1
          · rw [if_pos (by rw [e]; exact HU2.out.symm), e, Hz.out]
          · rw [if_neg (fun c => e (ix_inj (by omega) (by omega) (Nat.le_refl _) (Nat.le_refl _) (by omega) (by omega) (c.trans HU2.out)).1)]
            exact HE.out a a1 (by omega)
        case measure => simp [intOf]; omega
    · have HXE := Lib.hid (show x = i + 1 by omega)
      rw [HXE.out] at HE
      have pb : wr.cell? (alb.add j) = some (.int .i64 (q : Int)) := by rw [HF.out.row RB.out (Nat.lt_of_lt_of_le RB.out.lt HZ.out) (k := j) hj, Tr.la_up HY.out hj, ← HQ.out]
      go_wp2
      go_loopw [16] (fun yv wr => ∃ (y : Nat) (f : List Int), q ≤ y ∧ y ≤ j + 1 ∧ yv = .int .i64 y ∧ F8 B gt hf nf nm w wb f T wr ∧ (∀ a, p ≤ a → a ≤ i + 1 → Zs.at f (ix p q W a q) = RR xs ys k p a q q) ∧ ∀ b, q ≤ b → b ≤ y → Zs.at f (ix p q W p b) = RR xs ys k p p q b) (fun y _ => j + 1 - (intOf y).toNat)
      case atStart => exact ⟨q, f, Nat.le_refl _, by omega, rfl, HF.out, HE.out, fun b b1 b2 => by
        have e : b = q := by omega
        rw [e]; exact HE.out p (Nat.le_refl _) (by omega)⟩
      case round =>
        clear HF HE pa pb
        clear f
        obtain ⟨y, f, hqy, hyj, rfl, h8, hF, hG⟩ := hrel
        have HF := Lib.hid h8
        have HE := Lib.hid hF
        have HG := Lib.hid hG
        clear h8 hF hG
        have pb : wr.cell? (alb.add j) = some (.int .i64 (q : Int)) := by rw [HF.out.row RB.out (Nat.lt_of_lt_of_le RB.out.lt HZ.out) (k := j) hj, Tr.la_up HY.out hj, ← HQ.out]
        by_cases hlt : y ≤ j
        · as_aux_lemma =>
            obtain ⟨u, hu, eu⟩ := Tr.xa_lab HY.out (p := y) (by omega)
            have yl : wr.cell? (ay.add y) = some (.int .i64 (u : Int)) := by rw [HF.out.row RY.out (Nat.lt_of_lt_of_le RY.out.lt HZ.out) (k := y) (by omega), ← eu]; rfl
            obtain ⟨z, zu⟩ : ∃ z, z = Zs.at k.i u := ⟨_, rfl⟩
            have dd : wr.cell? (k1.add u) = some (.int .i64 (Zs.at k.i u)) := HF.out.row R1.out (Nat.lt_of_lt_of_le R1.out.lt HZ.out) (k := u) hu
            rw [← zu] at dd
            have gx := (HF.out.kb ⟨w.heap.size, 0, none⟩ (by show w.heap.size < hf; omega) (by show w.heap.size ≠ gt; omega)).trans C.out.1
            have gy := (HF.out.kb ⟨w.heap.size, 1, none⟩ (by show w.heap.size < hf; omega) (by show w.heap.size ≠ gt; omega)).trans C.out.2.1
            have gd := (HF.out.kb ⟨w.heap.size, 4, none⟩ (by show w.heap.size < hf; omega) (by show w.heap.size ≠ gt; omega)).trans C.out.2.2.1
            have gi := (HF.out.kb ⟨w.heap.size, 5, none⟩ (by show w.heap.size < hf; omega) (by show w.heap.size ≠ gt; omega)).trans C.out.2.2.2.1
            have gr := (HF.out.kb ⟨w.heap.size, 6, none⟩ (by show w.heap.size < hf; omega) (by show w.heap.size ≠ gt; omega)).trans C.out.2.2.2.2
            obtain ⟨s1, hs1⟩ : ∃ s1, s1 = y - q := ⟨_, rfl⟩
            have i1 : ix p q W p y = s1 := by rw [hs1]; unfold ix; rw [Nat.sub_self, Nat.zero_mul, Nat.zero_add]
            have i2 : ix p q W p (y + 1) = s1 + 1 := by rw [hs1]; unfold ix; rw [Nat.sub_self, Nat.zero_mul, Nat.zero_add]; omega
            have lt1 : s1 < nf := by rw [← i1, HNF.out, HV.out, HW.out]; exact ix_lt (by omega) (by omega) hpi hqj
            have lt2 : s1 + 1 < nf := by rw [← i2, HNF.out, HV.out, HW.out]; exact ix_lt (by omega) (by omega) hpi hqj
            have gf := own_int HF.out.rf (k := s1) (by rw [HF.out.flen]; exact lt1)
            have gs := own_int HF.out.rf (k := s1 + 1) (by rw [HF.out.flen]; exact lt2)
            have fs := HF.out.rf.frozenAt (s1 + 1)
            rw [← i1, HG.out y hqy (Nat.le_refl _), i1] at gf
            have bd := BR.out y hqy hlt
            have n1 := (Co.nonneg' k).2.1 (Tr.xa ys y)
            have Hz := Lib.hid (show RR xs ys k p p q y + z = RR xs ys k p p q (y + 1) by rw [ZR.out y hqy hlt, eu, Co.ins_at HK.out hu, zu])
            rw [eu, Co.ins_at HK.out hu, ← zu] at n1
            have I2 := Lib.hid i2
            have s24 : s1 ≤ 24 := by omega
            have d1 : (y : Int) - (q : Int) = (s1 : Int) := by omega
            have v1 : IntKind.i64.wrap (s1 : Int) = (s1 : Int) := Kit.w64 (by omega) (by omega)
            have v3 : IntKind.i64.wrap ((s1 : Int) + 1) = (s1 : Int) + 1 := Kit.w64 (by omega) (by omega)
            have v2 : IntKind.i64.wrap (RR xs ys k p p q y + z) = RR xs ys k p p q y + z := Kit.w64 (by omega) (by omega)
            have kk1 : (0 : Int) ≤ (y : Int) := by omega
            have kk2 : (y : Int) < (ys.length : Int) := by omega
            have kk3 : (0 : Int) ≤ (u : Int) := by omega
            have kk4 : (u : Int) < 6 := by omega
            have kk5 : (0 : Int) ≤ (s1 : Int) := by omega
            have kk6 : (s1 : Int) < (nf : Int) := by omega
            have kk7 : (0 : Int) ≤ (s1 : Int) + 1 := by omega
            have kk8 : (s1 : Int) + 1 < (nf : Int) := by omega
            clear eu zu hs1 i1 i2
            go_wp2_with fail
            go_still_tail 29, (by kernel_rfl)
            change wpList _ _ _ _ _ wr.drew
            go_wp2
            go_roundw
            case rel =>
              refine ⟨y + 1, _, by omega, by omega, by go_num, (HF.out.drawn (Drawn.refl _).drew).setf (by omega) (by omega) (s1 + 1) _, fun a a1 a2 => ?_, fun b b1 b2 => ?_⟩
              · rw [Zs.at_set (by rw [HF.out.flen]; exact lt2), if_neg, HE.out a a1 a2]
                intro c
                have := (ix_inj a1 (Nat.le_refl _) (Nat.le_refl _) (by omega) (by omega) (by omega) (c.trans I2.out.symm)).2
                omega
              · rw [Zs.at_set (by rw [HF.out.flen]; exact lt2)]
                by_cases e : b = y + 1
                · rw [if_pos (by rw [e]; exact I2.out), e, Hz.out]
                · rw [if_neg (fun c => e (ix_inj (Nat.le_refl _) (Nat.le_refl _) b1 (by omega) (by omega) (by omega) (c.trans I2.out.symm)).2)]
                  exact HG.out b b1 (by omega)
            case measure => simp [intOf]; omega
        · have HYE := Lib.hid (show y = j + 1 by omega)
          rw [HYE.out] at HG
          have FS := Lib.hid (Fill.start (F := fun a b => Zs.at f (ix p q W a b)) HX.out HY.out hi hj (HF.out.tlen.trans HNM.out) (by rw [← HP.out, ← HQ.out]; exact HE.out) (by rw [← HP.out, ← HQ.out]; exact HG.out))
          rw [← HP.out, ← HQ.out] at FS
          have pa : wr.cell? (ala.add i) = some (.int .i64 (p : Int)) := by rw [HF.out.row RA.out (Nat.lt_of_lt_of_le RA.out.lt HZ.out) (k := i) hi, Tr.la_up HX.out hi, ← HP.out]
          go_wp2
          try clear lx
          try clear ly
          try clear hW26
          try clear hV26
          try clear hnf1
          try clear hnm1
          try clear C
          try clear KB
          try clear BL
          try clear BR
          try clear ZZ
          try clear ZL
          try clear ZR
          try clear EW
          try clear EV
          try clear HVW
          try clear RT
          try clear l1
          try clear l2
          try clear b1
          try clear b2
          try clear b3
          try clear b4
          try clear hWa
          try clear hVa
          try clear Hi
          try clear hz0
          try clear hz1
          try clear hz2
          try clear c2
          try clear c3
          try clear HWB
          try clear HHF
          try clear R0
          try clear R1
          try clear R2
          try clear RX
          try clear RY
          try clear HK
          try clear HA
          try clear HNM
          try clear hpi
          try clear hqj
          go_loopw [17] (fun xv wr => ∃ (x : Nat) (f T1 : List Int), p ≤ x ∧ x ≤ i + 1 ∧ xv = .int .i64 x ∧ Fill xs ys k i j x q (fun a b => Zs.at f (ix p q W a b)) T T1 ∧ F8 B gt hf nf nm w wb f T1 wr) (fun x _ => i + 1 - (intOf x).toNat)
          case atStart => exact ⟨p, f, T, Nat.le_refl _, by omega, rfl, FS.out, HF.out⟩
          case round =>
            clear HF HE HG FS pa pb
            clear f
            obtain ⟨x, f, T1, hpx, hxi, rfl, hS, h8⟩ := hrel
            have HF := Lib.hid h8
            have HS := Lib.hid hS
            clear h8 hS
            have pb : wr.cell? (alb.add j) = some (.int .i64 (q : Int)) := by rw [HF.out.row RB.out (Nat.lt_of_lt_of_le RB.out.lt HZ.out) (k := j) hj, Tr.la_up HY.out hj, ← HQ.out]
            by_cases hlt : x ≤ i
            · go_wp2
              go_loopw [18] (fun yv wr => ∃ (y : Nat) (f T1 : List Int), q ≤ y ∧ y ≤ j + 1 ∧ yv = .int .i64 y ∧ Fill xs ys k i j x y (fun a b => Zs.at f (ix p q W a b)) T T1 ∧ F8 B gt hf nf nm w wb f T1 wr) (fun y _ => j + 1 - (intOf y).toNat)
              case atStart => exact ⟨q, f, T1, Nat.le_refl _, by omega, rfl, HS.out, HF.out⟩
              case round =>
                clear HF HS pb
                clear f T1
                obtain ⟨y, f, T1, hqy, hyj, rfl, hS, h8⟩ := hrel
                have HF := Lib.hid h8
                have HS := Lib.hid hS
                clear h8 hS
                have pa : wr.cell? (ala.add i) = some (.int .i64 (p : Int)) := by rw [HF.out.row RA.out (Nat.lt_of_lt_of_le RA.out.lt HZ.out) (k := i) hi, Tr.la_up HX.out hi, ← HP.out]
                have pb : wr.cell? (alb.add j) = some (.int .i64 (q : Int)) := by rw [HF.out.row RB.out (Nat.lt_of_lt_of_le RB.out.lt HZ.out) (k := j) hj, Tr.la_up HY.out hj, ← HQ.out]
                by_cases hlt2 : y ≤ j
                · by_cases ef : Tr.la xs x = Tr.la xs i ∧ Tr.la ys y = Tr.la ys j
                  · as_aux_lemma =>
                      obtain ⟨ua, ub, r1, r, s, u1, u2, v1, v2, v3, v4, z0, z1, a6, t6, dv, iv, A1, A2, A3, A5, rv, m0, v, E, GM, HM, G24, G25, HV, G26, ST⟩ := l8_cellA FRM.out HF.out HS.out hpx hlt hqy hlt2 ef
                      have HK0 := Lib.hid (show w.heap.size < hf ∧ gt < w.heap.size ∧ B ≤ gt ∧ p ≤ x ∧ x ≤ i ∧ q ≤ y ∧ y ≤ j ∧ i < xs.length ∧ j < ys.length ∧ xs.length ≤ 24 ∧ ys.length ≤ 24 from ⟨hfl, hgw, hBg, hpx, hlt, hqy, hlt2, hi, hj, lx', ly'⟩)
                      clear hfl hgw hBg ef pa pb HS FRM
                      obtain ⟨er, es⟩ := E.out
                      have ER := Lib.hid er
                      have ES := Lib.hid es
                      clear er es E
                      obtain ⟨pa, pb, gx, gy, gd, gi, xl, yl, cd, ci, gf1, gf3, d1, d2, d3, d4, x1, x2, x3, x4, x5, x6, wu1, wu2, bx0, bx1, by0, by1, bua0, bua1, bub0, bub1, bv10, bv11, bv30, bv31⟩ := GM.out
                      go_wp2_with fail
                      rw [ER.out, ES.out]
                      clear hpx hlt hqy hlt2 hi hj lx' ly'
                      go_quiet (fail)
                      rw [min_if, ← HM.out]
                      clear pa pb gx gy gd gi xl yl cd ci gf1 gf3 d1 d2 d3 d4 x1 x2 x3 x4 x5 x6 wu1 wu2 bx0 bx1 by0 by1 bua0 bua1 bub0 bub1 bv10 bv11 bv30 bv31 GM
                      obtain ⟨pa, pb, pl, ql, e1, e2, bx0, bx1, by0, by1, bi0, bi1, bj0, bj1⟩ := G24.out
                      go_wp2_with fail
                      go_quiet (fail)
                      clear pa pb pl ql e1 e2 bx0 bx1 by0 by1 bi0 bi1 bj0 bj1 G24
                      obtain ⟨gx, gy, gr, xl, yl, cr, gf4, y1, y2, y3, y4, y5, d1, d2, d5, x1, x2, x7, wu1, bt60, bt61, bv40, bv41, bx0, bx1, by0, by1, bua0, bua1, bub0, bub1⟩ := G25.out
                      go_wp2_with fail
                      go_quiet (fail)
                      rw [min_if, ← HV.out]
                      clear gx gy gr xl yl cr gf4 y1 y2 y3 y4 y5 d1 d2 d5 x1 x2 x7 wu1 bt60 bt61 bv40 bv41 bx0 bx1 by0 by1 bua0 bua1 bub0 bub1 G25
                      obtain ⟨wz, dz, wz1, gz, fz, bx0, bx1, by0, by1, bz10, bz11, d3, x3, wu2, gf2, ff2, ne1, ne2, bv20, bv21⟩ := G26.out
                      obtain ⟨hfl, hgw, hBg, hpx, hlt, hqy, hlt2, hi, hj, lx', ly'⟩ := HK0.out
                      go_wp2
                      clear wz dz wz1 gz fz bx0 bx1 by0 by1 bz10 bz11 d3 x3 wu2 gf2 ff2 ne1 ne2 bv20 bv21 G26
                      go_roundw
                      case rel => exact ⟨y + 1, _, _, by omega, by omega, by go_num, ST.out, ((HF.out.drawn ((Drawn.refl _).drewN _)).sett (by omega) (by omega) z1 v).setf (by omega) (by omega) v2 v⟩
                      case measure => simp [intOf]; omega
                  · as_aux_lemma =>
                      obtain ⟨ua, ub, r1, r, s, u1, u2, v1, v2, v3, v4, z0, z1, lxx, lyy, h1, h2, h3, h4, dv, iv, A1, A2, A4, A5, m0, v, E, GM, HM, G24, NE, G25, HV, G26, ST⟩ := l8_cellB FRM.out HF.out HS.out hpx hlt hqy hlt2 ef
                      have HK0 := Lib.hid (show w.heap.size < hf ∧ gt < w.heap.size ∧ B ≤ gt ∧ p ≤ x ∧ x ≤ i ∧ q ≤ y ∧ y ≤ j ∧ i < xs.length ∧ j < ys.length ∧ xs.length ≤ 24 ∧ ys.length ≤ 24 from ⟨hfl, hgw, hBg, hpx, hlt, hqy, hlt2, hi, hj, lx', ly'⟩)
                      clear hfl hgw hBg ef pa pb HS FRM
                      obtain ⟨er, es⟩ := E.out
                      have ER := Lib.hid er
                      have ES := Lib.hid es
                      clear er es E
                      rcases NE.out with c1 | ⟨c1, c2⟩
                      · skip
                        obtain ⟨pa, pb, gx, gy, gd, gi, xl, yl, cd, ci, gf1, gf3, d1, d2, d3, d4, x1, x2, x3, x4, x5, x6, wu1, wu2, bx0, bx1, by0, by1, bua0, bua1, bub0, bub1, bv10, bv11, bv30, bv31⟩ := GM.out
                        go_wp2_with fail
                        rw [ER.out, ES.out]
                        clear hpx hlt hqy hlt2 hi hj lx' ly'
                        go_quiet (fail)
                        rw [min_if, ← HM.out]
                        clear pa pb gx gy gd gi xl yl cd ci gf1 gf3 d1 d2 d3 d4 x1 x2 x3 x4 x5 x6 wu1 wu2 bx0 bx1 by0 by1 bua0 bua1 bub0 bub1 bv10 bv11 bv30 bv31 GM
                        obtain ⟨pa, pb, pl, ql, bx0, bx1, by0, by1, bi0, bi1, bj0, bj1⟩ := G24.out
                        go_wp2_with fail
                        go_quiet (fail)
                        clear pa pb pl ql bx0 bx1 by0 by1 bi0 bi1 bj0 bj1 G24
                        obtain ⟨pb, pa, pl, ql, gf5, gz, i3, i4, i5, i6, i7, i8, i9, y5, wz, dz, wz1, bx0, bx1, by0, by1, bz10, bz11, bh40, bh41, bi0, bi1, bj0, bj1⟩ := G25.out
                        go_wp2_with fail
                        go_quiet (fail)
                        rw [min_if, ← HV.out]
                        clear pb pa pl ql gf5 gz i3 i4 i5 i6 i7 i8 i9 y5 wz dz wz1 bx0 bx1 by0 by1 bz10 bz11 bh40 bh41 bi0 bi1 bj0 bj1 G25
                        obtain ⟨d3, x3, wu2, gf2, ff2, ne1, ne2, bv20, bv21, bx0, bx1, by0, by1⟩ := G26.out
                        obtain ⟨hfl, hgw, hBg, hpx, hlt, hqy, hlt2, hi, hj, lx', ly'⟩ := HK0.out
                        go_wp2
                        clear d3 x3 wu2 gf2 ff2 ne1 ne2 bv20 bv21 bx0 bx1 by0 by1 G26
                        go_roundw
                        case rel => exact ⟨y + 1, _, _, by omega, by omega, by go_num, ST.out, (HF.out.drawn ((Drawn.refl _).drewN _)).setf (by omega) (by omega) v2 v⟩
                        case measure => simp [intOf]; omega
                      · skip
                        obtain ⟨pa, pb, gx, gy, gd, gi, xl, yl, cd, ci, gf1, gf3, d1, d2, d3, d4, x1, x2, x3, x4, x5, x6, wu1, wu2, bx0, bx1, by0, by1, bua0, bua1, bub0, bub1, bv10, bv11, bv30, bv31⟩ := GM.out
                        go_wp2_with fail
                        rw [ER.out, ES.out]
                        clear hpx hlt hqy hlt2 hi hj lx' ly'
                        go_quiet (fail)
                        rw [min_if, ← HM.out]
                        clear pa pb gx gy gd gi xl yl cd ci gf1 gf3 d1 d2 d3 d4 x1 x2 x3 x4 x5 x6 wu1 wu2 bx0 bx1 by0 by1 bua0 bua1 bub0 bub1 bv10 bv11 bv30 bv31 GM
                        obtain ⟨pa, pb, pl, ql, bx0, bx1, by0, by1, bi0, bi1, bj0, bj1⟩ := G24.out
                        go_wp2_with fail
                        go_quiet (fail)
                        clear pa pb pl ql bx0 bx1 by0 by1 bi0 bi1 bj0 bj1 G24
                        obtain ⟨pb, pa, pl, ql, gf5, gz, i3, i4, i5, i6, i7, i8, i9, y5, wz, dz, wz1, bx0, bx1, by0, by1, bz10, bz11, bh40, bh41, bi0, bi1, bj0, bj1⟩ := G25.out
                        go_wp2_with fail
                        go_quiet (fail)
                        rw [min_if, ← HV.out]
                        clear pb pa pl ql gf5 gz i3 i4 i5 i6 i7 i8 i9 y5 wz dz wz1 bx0 bx1 by0 by1 bz10 bz11 bh40 bh41 bi0 bi1 bj0 bj1 G25
                        obtain ⟨d3, x3, wu2, gf2, ff2, ne1, ne2, bv20, bv21, bx0, bx1, by0, by1⟩ := G26.out
                        obtain ⟨hfl, hgw, hBg, hpx, hlt, hqy, hlt2, hi, hj, lx', ly'⟩ := HK0.out
                        go_wp2
                        clear d3 x3 wu2 gf2 ff2 ne1 ne2 bv20 bv21 bx0 bx1 by0 by1 G26
                        go_roundw
                        case rel => exact ⟨y + 1, _, _, by omega, by omega, by go_num, ST.out, (HF.out.drawn ((Drawn.refl _).drewN _)).setf (by omega) (by omega) v2 v⟩
                        case measure => simp [intOf]; omega
                · have hye : y = j + 1 := by omega
                  rw [hye] at HS
                  clear hye
                  have HN := Lib.hid (Fill.next HY.out hj HS.out)
                  rw [← HQ.out] at HN
                  go_wp2
                  go_roundw
                  case rel => exact ⟨x + 1, f, T1, by omega, by omega, by go_num, HN.out, HF.out⟩
                  case measure => simp [intOf]; omega
            · have hxe : x = i + 1 := by omega
              rw [hxe] at HS
              clear hxe
              go_wp2
              go_ret
              refine ⟨hf, nf, f, T1, rfl, by rw [HNF.out, HV.out], own_base HF.out.rf (by omega), HS.out, HF.out.rt, fun a h1 h2 => (HF.out.kb a (by omega) h2).trans (KB0.out a h1), HF.out.bl⟩



end Go.Proofs.Ytlndaflhlkbedaa
