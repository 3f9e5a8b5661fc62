/- Texts of one claim laid into one file, in build order: OsM, OsH, OsK, Cb10, OsE. -/
import Derived.Test.YtofpcedpmbecgaaHh15
import Derived.Test.YtofpcedpmbecgaaHh19
import Derived.Test.YtofpcedpmbecgaaHh2
import Derived.Test.YtofpcedpmbecgaaHh24
import Derived.Test.YtofpcedpmbecgaaHh3
import Derived.Deep.RegionHeld3
/- Contracts (OsM). -/
namespace Go.Proofs.Ytofpcedpmbecgaa
open Go.RowKit
set_option linter.unusedVariables false

/-- how many marks the first i operations take -/
def Om.at (F : Nat → Opr) : Nat → Nat
  | 0 => 0
  | i + 1 => Om.at F i + ((F i).p.length + 4)
theorem Om.mono (F : Nat → Opr) {i j : Nat} (h : i ≤ j) : Om.at F i ≤ Om.at F j := by
  induction j with
  | zero => obtain rfl : i = 0 := by omega
            exact Nat.le_refl _
  | succ j ih =>
    rcases Nat.lt_or_ge i (j + 1) with h' | h'
    · have := ih (by omega)
      have e : Om.at F (j + 1) = Om.at F j + ((F j).p.length + 4) := rfl
      omega
    · obtain rfl : i = j + 1 := by omega
      exact Nat.le_refl _
/-- an operation overwritten by marks -/
def Om.one (k : Int) (o : Opr) : Opr := ⟨k, Zs.marks (k + 1) o.p.length, k + 1 + o.p.length, k + 1 + o.p.length + 1, k + 1 + o.p.length + 1 + 1⟩
def Om.mk (k0 : Int) (F : Nat → Opr) (i : Nat) : Nat → Opr := fun j => if j < i then Om.one (k0 + (Om.at F j : Nat)) (F j) else F j
/-- an own row of operations, by functions -/
def OsFn (w : World) (base b n : Nat) (G L : Nat → Nat) (F : Nat → Opr) : Prop :=
  w.ownsRow base 33 5 (.slice (some ⟨b, 0, none⟩) n n) n (C5 (fun i => (F i).cell (.slice (some ⟨G i, 0, none⟩) (L i) (L i))) n) ∧
  (∀ i, i < n → w.ownsRow base 3 1 (.slice (some ⟨G i, 0, none⟩) (L i) (L i)) (L i) (ints (F i).p)) ∧ (∀ i j, i < j → j < n → G i < G j) ∧ (∀ i, i < n → G i ≠ b)
theorem op_ne : 33 ≠ 3 := by decide
theorem own_row_ne {w : World} {b1 b2 n1 n2 s1 s2 : Nat} {e1 e2 : TypeId} {v1 v2 : Value} {x1 x2 : List Value} (h1 : w.ownsRow b1 e1 s1 v1 n1 x1) (h2 : w.ownsRow b2 e2 s2 v2 n2 x2) (he : e1 ≠ e2) : v1.ownBlock = none ∨ v1.ownBlock ≠ v2.ownBlock := by
  rcases h1.2 with ⟨rfl, _⟩ | ⟨g, cap, cur, rfl, _, hg, _⟩
  · exact .inl rfl
  · refine .inr fun e => ?_
    rcases h2.2 with ⟨rfl, _⟩ | ⟨g', cap', cur', rfl, _, hg', _⟩
    · cases e
    · simp only [Value.ownBlock, Option.some.injEq] at e
      subst e
      rw [hg] at hg'
      simp only [Option.some.injEq, Obj.cells.injEq] at hg'
      exact he hg'.2.1
theorem OsOwn.fn {w : World} {base b n : Nat} {os : List Opr} {G : Nat → Nat} (h : OsOwn w base (.slice (some ⟨b, 0, none⟩) n n) n os G) : OsFn w base b n G (fun i => (os.getD i Opr.z).p.length) (fun i => os.getD i Opr.z) :=
  ⟨h.1, h.2.2.1, h.2.2.2, fun i hi e => by
    rcases own_row_ne h.1 (h.2.2.1 i hi) op_ne with q | q
    · cases q
    · exact q (by simp [Value.ownBlock, e])⟩
/-- what the writing of marks leaves as it was -/
def OmKeep (b n : Nat) (G : Nat → Nat) (w w' : World) : Prop := ∀ (base size m : Nat) (e : TypeId) (u : Value) (xs : List Value), (u.ownBlock = none ∨ (u.ownBlock ≠ some b ∧ ∀ i, i < n → u.ownBlock ≠ some (G i))) → w.ownsRow base e size u m xs → w'.ownsRow base e size u m xs
set_option maxHeartbeats 3200000 in
set_option maxRecDepth 100000 in
theorem markOpS_any (b n base : Nat) (G : Nat → Nat) (F : Nat → Opr) (k0 : Int) (w : World) (h : OsFn w base b n G (fun i => (F i).p.length) F) (hn : n ≤ 1048576) (hp : ∀ i, (F i).p.length ≤ 1048576) (h0 : 0 ≤ k0) (h1 : k0 + (Om.at F n : Nat) ≤ 1073741824) (hb : base ≤ w.heap.size) :
    Calls Try.prog 51 #[.slice (some ⟨b, 0, none⟩) n n, .int .i64 k0] w fun e w' => e = .returned (.int .i64 (k0 + (Om.at F n : Nat))) ∧ OsFn w' base b n G (fun i => (F i).p.length) (Om.mk k0 F n) ∧ OmKeep b n G w w' ∧ Below base w w' := by
  have H := Lib.hid h
  have HP := Lib.hid hp
  obtain ⟨N, hN⟩ : ∃ N, N = Om.at F n := ⟨_, rfl⟩
  have HM := Lib.hid (show ∀ i, i ≤ n → Om.at F i ≤ N from fun i hi => by rw [hN]; exact Om.mono F hi)
  have HNN := Lib.hid hN
  rw [← hN] at h1 ⊢
  clear h hp hN
  go_enter Try.func51, Try.ntmps51
  go_wp2
  go_loopw [5, 1] (fun iv kv wr => ∃ j : Nat, j ≤ n ∧ iv = .int .i64 j ∧ kv = .int .i64 (k0 + (Om.at F j : Nat)) ∧ OsFn wr base b n G (fun i => (F i).p.length) (Om.mk k0 F j) ∧ OmKeep b n G w wr ∧ Below base w wr) (fun i _ _ => n - (intOf i).toNat)
  case atStart => exact ⟨0, by omega, rfl, by simp [Om.at], (by rw [show Om.mk k0 F 0 = F from funext fun j => by simp [Om.mk]]; exact H.out), fun _ _ _ _ _ _ _ h => h, Below.refl _ _⟩
  case round =>
    obtain ⟨j, hj, rfl, rfl, hown, hkp, hB⟩ := hrel
    have HK := Lib.hid hkp
    have HB := Lib.hid hB
    have HO := Lib.hid hown
    have hm := HM.out j hj
    clear hown hkp hB
    by_cases hlt : j < n
    · have hm1 := HM.out (j + 1) hlt
      have HA := Lib.hid (show Om.at F (j + 1) = Om.at F j + ((F j).p.length + 4) from rfl)
      rw [HA.out] at hm1
      obtain ⟨ln, hln⟩ : ∃ ln, ln = (F j).p.length := ⟨_, rfl⟩
      obtain ⟨t, ht⟩ : ∃ t, t = Om.at F j := ⟨_, rfl⟩
      have Hln := Lib.hid hln
      have Ht := Lib.hid ht
      have hpl := HP.out j
      rw [← hln] at hm1 hpl
      rw [← ht] at hm hm1 ⊢
      clear hln ht
      have Ej := Lib.hid (show Om.mk k0 F j j = F j by simp [Om.mk])
      have c0 : wr.cell? ⟨b, j * 5, none⟩ = some (.int .i64 (F j).k) := by have := own_c5 HO.out.1 hlt (show 0 < 5 by decide); rw [Ej.out] at this; exact this
      have c1 : wr.cell? ⟨b, j * 5 + 1, none⟩ = some (.slice (some ⟨G j, 0, none⟩) ln ln) := by have := own_c5 HO.out.1 hlt (show 1 < 5 by decide); rw [Ej.out] at this; rw [Hln.out]; exact this
      have f0 := HO.out.1.frozenAt (j * 5)
      have f1 := HO.out.1.frozenAt (j * 5 + 1)
      have o1 := (HO.out.1.stored (j * 5) (.int .i64 (k0 + t)))
      have HO1 := Lib.hid o1
      clear o1
      have ri : wr.ownsRow base 3 1 (.slice (some ⟨G j, 0, none⟩) ln ln) ln (ints (F j).p) := by have := HO.out.2.1 j hlt; rw [Ej.out] at this; rw [Hln.out]; exact this
      have nb : (Value.slice (some (⟨G j, 0, none⟩ : Addr)) ln ln).ownBlock = none ∨ (Value.slice (some (⟨G j, 0, none⟩ : Addr)) ln ln).ownBlock ≠ some b := .inr fun e => HO.out.2.2.2 j hlt (by simp only [Value.ownBlock] at e; injection e)
      have RI := Lib.hid (own_apart ri HO1.out.2 nb)
      have NB := Lib.hid (show (Value.slice (some (⟨b, 0, none⟩ : Addr)) n n).ownBlock = none ∨ (Value.slice (some (⟨b, 0, none⟩ : Addr)) n n).ownBlock ≠ (Value.slice (some (⟨G j, 0, none⟩ : Addr)) ln ln).ownBlock from .inr fun e => HO.out.2.2.2 j hlt (by simp only [Value.ownBlock] at e; injection e with e; exact e.symm))
      clear ri nb
      have p0 : (0 : Int) ≤ k0 + t + 1 := by omega
      have p1 : k0 + (t : Int) + 1 ≤ 1073741824 := by omega
      go_wp2_with (go_loud (go_at_call 40; refine (markIntS_any _ _ _ _ _ _ _ _ RI.out hpl p0 p1).mono ?_; rintro e w2 ⟨rfl, ho2, hg2⟩; have HO2 := Lib.hid ho2; have HG2 := Lib.hid hg2; clear ho2 hg2; have HW2 := Lib.hid (own_apart HO1.out.1 HG2.out NB.out); have E2 := HW2.out; rw [C5_set0] at E2; have d2 : w2.cell? ⟨b, j * 5 + 2, none⟩ = some (.int .i64 (F j).a) := (own_c5 E2 hlt (show 2 < 5 by decide)).trans (by simp [Ej.out, Opr.cell]); have d3 : w2.cell? ⟨b, j * 5 + 3, none⟩ = some (.int .i64 (F j).f) := (own_c5 E2 hlt (show 3 < 5 by decide)).trans (by simp [Ej.out, Opr.cell]); have d4 : w2.cell? ⟨b, j * 5 + 4, none⟩ = some (.int .i64 (F j).c) := (own_c5 E2 hlt (show 4 < 5 by decide)).trans (by simp [Ej.out, Opr.cell]); have f2 := E2.frozenAt (j * 5 + 2); have f3 := E2.frozenAt (j * 5 + 3); have f4 := E2.frozenAt (j * 5 + 4); clear E2))
      go_roundw
      case rel =>
        have G0 := HO1.out.2
        have G1 := HW2.out.stored (j * 5 + 2) (.int .i64 (k0 + t + 1 + ln))
        have G2 := G1.1.stored (j * 5 + 3) (.int .i64 (k0 + t + 1 + ln + 1))
        have G3 := G2.1.stored (j * 5 + 4) (.int .i64 (k0 + t + 1 + ln + 1 + 1))
        have st (bs size m : Nat) (e : TypeId) (u : Value) (xs : List Value) (hu : u.ownBlock = none ∨ u.ownBlock ≠ some b) (h : w2.ownsRow bs e size u m xs) := own_apart (own_apart (own_apart h G1.2 hu) G2.2 hu) G3.2 hu
        have kp (bs size m : Nat) (e : TypeId) (u : Value) (xs : List Value) (hu : u.ownBlock = none ∨ (u.ownBlock ≠ some b ∧ u.ownBlock ≠ some (G j))) (h : wr.ownsRow bs e size u m xs) := st _ _ _ _ _ _ (hu.imp id And.left) (own_apart (own_apart h G0 (hu.imp id And.left)) HG2.out (hu.imp id And.right))
        obtain ⟨q1, q2, q3, q4⟩ := HO.out
        have ob (i : Nat) (m : Nat) : (Value.slice (some (⟨G i, 0, none⟩ : Addr)) m m).ownBlock = some (G i) := rfl
        have nb (i : Nat) (m : Nat) (hi : i < n) : (Value.slice (some (⟨G i, 0, none⟩ : Addr)) m m).ownBlock ≠ some b := fun e => q4 i hi (by rw [ob] at e; injection e)
        have hsz := HB.out.size
        refine ⟨j + 1, by omega, by go_num, congrArg (Value.int .i64) (by rw [HA.out, ← Ht.out, ← Hln.out]; omega), ⟨?_, fun i hi => ?_, q3, q4⟩, fun bs size m e u xs hu h => kp _ _ _ _ _ _ (hu.imp id fun hu => ⟨hu.1, hu.2 j hlt⟩) (HK.out _ _ _ _ _ _ hu h), ?_⟩
        · have r5 := G3.1
          rw [C5_set0, C5_set (j := 2) (by decide), C5_set (j := 3) (by decide), C5_set (j := 4) (by decide)] at r5
          refine Eq.mp ?_ r5
          congr 1
          refine C5_ext fun i q hi hq => ?_
          by_cases e : i = j
          · subst e
            rcases (show q = 0 ∨ q = 1 ∨ q = 2 ∨ q = 3 ∨ q = 4 by omega) with rfl | rfl | rfl | rfl | rfl <;> simp [Om.mk, Om.one, Opr.cell, Ht.out, Hln.out]
          · simp [e, Om.mk, show i < j + 1 ↔ i < j by omega]
        · by_cases e : i = j
          · subst e
            have r := st _ _ _ _ _ _ (.inr (nb i ln hi)) HO2.out
            rw [show (Om.mk k0 F (i + 1) i).p = Zs.marks (k0 + t + 1) ln by simp [Om.mk, Om.one, Ht.out, Hln.out]]
            simp only [← Hln.out]
            exact r
          · have r := kp _ _ _ _ _ _ (.inr ⟨nb i _ hi, fun e' => by rw [ob] at e'; injection e' with e'; rcases Nat.lt_or_gt_of_ne e with c | c; (have := q3 i j c hlt; omega); (have := q3 j i c hi; omega)⟩) (q2 i hi)
            rw [show Om.mk k0 F (j + 1) i = Om.mk k0 F j i by simp [Om.mk, show i < j + 1 ↔ i < j by omega]]
            exact r
        · have b1 := own_below_of HB.out q1 G0 (Nat.le_refl _) (by omega)
          have b2 := own_below_of b1 RI.out HG2.out (Nat.le_refl _) (by have := b1.size; omega)
          have b3 := own_below_of b2 HW2.out G1.2 (Nat.le_refl _) (by have := b2.size; omega)
          have b4 := own_below_of b3 G1.1 G2.2 (Nat.le_refl _) (by have := b3.size; omega)
          exact own_below_of b4 G2.1 G3.2 (Nat.le_refl _) (by have := b4.size; omega)
      case measure => simp [intOf]; omega
    · obtain rfl : j = n := by omega
      go_wp2
      go_ret
      exact ⟨by rw [HNN.out]; rfl, HO.out, HK.out, HB.out⟩

end Go.Proofs.Ytofpcedpmbecgaa

/- Contracts (OsH). -/
namespace Go.Proofs.Ytofpcedpmbecgaa
open Go.RowKit
set_option linter.unusedVariables false

/-- values and steps of the first i operations' paths -/
def Os.tot (os : List Opr) : Nat → Nat
  | 0 => 0
  | i + 1 => Os.tot os i + (os.getD i Opr.z).p.length
theorem Os.tot_mono (os : List Opr) {i j : Nat} (h : i ≤ j) : Os.tot os i ≤ Os.tot os j := by
  induction j with
  | zero => obtain rfl : i = 0 := by omega
            exact Nat.le_refl _
  | succ j ih =>
    rcases Nat.lt_or_ge i (j + 1) with h' | h'
    · have := ih (by omega)
      have e : Os.tot os (j + 1) = Os.tot os j + (os.getD j Opr.z).p.length := rfl
      omega
    · obtain rfl : i = j + 1 := by omega
      exact Nat.le_refl _
theorem Os.tot_one (os : List Opr) {i j : Nat} (h : i < j) : (os.getD i Opr.z).p.length ≤ Os.tot os j := by
  have := Os.tot_mono os (show i + 1 ≤ j from h)
  have e : Os.tot os (i + 1) = Os.tot os i + (os.getD i Opr.z).p.length := rfl
  omega
set_option maxHeartbeats 1600000 in
set_option maxRecDepth 100000 in
theorem szOpS_any (A : Option Addr) (n c : Nat) (os : List Opr) (left : Int) (w : World) (h : OpsIn w w.heap.size A n os) (hn : n ≤ 9223372036854775807) (hp : ∀ i, (os.getD i Opr.z).p.length ≤ 9223372036854775807) (h0 : 0 ≤ left) (h1 : left ≤ 1048576) :
    Calls Try.prog 48 #[.slice A n c, .int .i64 left] w fun e w' => e = .returned (.int .i64 (if ((n + Os.tot os n : Nat) : Int) ≤ left then left - ((n + Os.tot os n : Nat) : Int) else -1)) ∧ Below w.heap.size w w' := by
  have H := Lib.hid h
  have HP := Lib.hid hp
  clear h hp
  obtain ⟨N, hN⟩ : ∃ N, N = Os.tot os n := ⟨_, rfl⟩
  have HM := Lib.hid (show ∀ i, i ≤ n → Os.tot os i ≤ N from fun i hi => by rw [hN]; exact Os.tot_mono os hi)
  have HNN := Lib.hid hN.symm
  rw [← hN]
  obtain ⟨Z, hZ⟩ : ∃ Z : Int, Z = if ((n + N : Nat) : Int) ≤ left then left - ((n + N : Nat) : Int) else -1 := ⟨_, rfl⟩
  rw [← hZ]
  have HZ := Lib.hid hZ
  clear hN hZ
  have a5 : IntKind.i64.wrap (left - (n : Int)) = left - (n : Int) := Kit.w64 (by omega) (by omega)
  by_cases hb : left < (n : Int)
  · have q : decide (left - (n : Int) < 0) = true := decide_eq_true (by omega)
    go_enter Try.func48, Try.ntmps48
    go_wp2
    go_ret
    exact ⟨Kit.ret_int (by rw [HZ.out, if_neg (by omega)]), Below.refl _ _⟩
  · have q : decide (left - (n : Int) < 0) = false := decide_eq_false (by omega)
    go_enter Try.func48, Try.ntmps48
    go_wp2
    go_loopw [5, 1] (fun iv lv wr => ∃ i : Nat, i ≤ n ∧ iv = .int .i64 i ∧ lv = .int .i64 (left - (n : Int) - (Os.tot os i : Int)) ∧ (n : Int) + (Os.tot os i : Int) ≤ left ∧ Below w.heap.size w wr) (fun i _ _ => n - (intOf i).toNat)
    case atStart => exact ⟨0, by omega, by go_num, by simp [Os.tot], by simp [Os.tot]; omega, Below.refl _ _⟩
    case round =>
      obtain ⟨i, hi, rfl, rfl, hle, hB⟩ := hrel
      have HB := Lib.hid hB
      have HO := Lib.hid (H.out.to_below hB)
      have hti := HM.out i hi
      clear hB
      by_cases hlt : i < n
      · obtain ⟨ad, P, pq, rfl, y0, y1, y2, y3, y4, -⟩ := HO.out.at_ hlt
        have hts := HM.out (i + 1) hlt
        have HT := Lib.hid (show Os.tot os (i + 1) = Os.tot os i + (os.getD i Opr.z).p.length from rfl)
        have HPi := Lib.hid (HP.out i)
        obtain ⟨o, ho⟩ : ∃ o, o = os.getD i Opr.z := ⟨_, rfl⟩
        rw [← ho] at y0 y1 y2 y3 y4 HT HPi
        rw [HT.out] at hts
        clear ho
        obtain ⟨T, hT⟩ : ∃ T, T = Os.tot os i := ⟨_, rfl⟩
        obtain ⟨m, hm⟩ : ∃ m, m = o.p.length := ⟨_, rfl⟩
        rw [← hT, ← hm] at HT hts
        rw [← hT] at hle hti ⊢
        rw [← hm] at y1 HPi
        have Hm := Lib.hid hm
        have HTT := Lib.hid hT
        clear hT hm
        have b0 : (0 : Int) ≤ (i : Int) := by omega
        have b1 : (i : Int) < (n : Int) := by omega
        by_cases hc : (m : Int) ≤ left - (n : Int) - (T : Int)
        · go_wp2_with (go_loud (go_at_call 44; refine (szOp_any _ _ _ _ _ _ _ _ _ HPi.out (by omega) (by omega)).mono ?_; rintro e w2 ⟨rfl, hb2⟩; rw [if_pos hc]; have HB2 := Lib.hid (HB.out.trans (hb2.mono HB.out.size)); have q2 : decide (left - (n : Int) - (T : Int) - (m : Int) < 0) = false := (decide_eq_false (by omega))))
          go_roundw
          case rel => exact ⟨i + 1, by omega, by go_num, by rw [HT.out]; congr 1; omega, by rw [HT.out]; omega, HB2.out⟩
          case measure => simp [intOf]; omega
        · go_wp2_with (go_loud (go_at_call 44; refine (szOp_any _ _ _ _ _ _ _ _ _ HPi.out (by omega) (by omega)).mono ?_; rintro e w2 ⟨rfl, hb2⟩; rw [if_neg hc]; have HB2 := Lib.hid (HB.out.trans (hb2.mono HB.out.size))))
          go_ret
          exact ⟨Kit.ret_int (by rw [HZ.out, if_neg (by omega)]), HB2.out⟩
      · obtain rfl : i = n := by omega
        rw [HNN.out] at hle hti ⊢
        go_wp2
        go_ret
        exact ⟨Kit.ret_int (by rw [HZ.out, if_pos (by omega)]; omega), HB.out⟩

end Go.Proofs.Ytofpcedpmbecgaa

/- Contracts (OsK). -/
namespace Go.Proofs.Ytofpcedpmbecgaa
open Go.RowKit
set_option linter.unusedVariables false

section
variable {w w' : World} {base b n : Nat} {os : List Opr} {G : Nat → Nat}
theorem OpsIn.of_own (h : OsOwn w base (.slice (some ⟨b, 0, none⟩) n n) n os G) : OpsIn w w.heap.size (some ⟨b, 0, none⟩) n os := by
  refine ⟨h.2.1, fun _ => ⟨_, rfl, (h.1.lt b rfl).2⟩, fun ad e i hi => ?_⟩
  obtain rfl : (⟨b, 0, none⟩ : Addr) = ad := by injection e
  have ha (k : Nat) : (⟨b, 0, none⟩ : Addr).add k = ⟨b, k, none⟩ := by simp only [Addr.add]; split <;> simp_all
  refine ⟨some ⟨G i, 0, none⟩, (os.getD i Opr.z).p.length, ⟨?_, ?_, ?_, ?_, ?_⟩, IntIn.of_own (h.2.2.1 i hi)⟩
  · rw [ha]; exact own_c5 h.1 hi (show 0 < 5 by decide)
  · rw [ha]; exact own_c5 h.1 hi (show 1 < 5 by decide)
  · rw [ha]; exact own_c5 h.1 hi (show 2 < 5 by decide)
  · rw [ha]; exact own_c5 h.1 hi (show 3 < 5 by decide)
  · rw [ha]; exact own_c5 h.1 hi (show 4 < 5 by decide)
theorem OsOwn.below {v : Value} (h : OsOwn w base v n os G) (hb : Below w.heap.size w w') : OsOwn w' base v n os G :=
  ⟨own_below h.1 hb, h.2.1, fun i hi => own_below (h.2.2.1 i hi) hb, h.2.2.2⟩
theorem OsOwn.grown {v : Value} {row : Option Nat} (h : OsOwn w base v n os G) (hg : w.grownBy w' row) (hr : ∀ k, row = some k → k < base) : OsOwn w' base v n os G :=
  ⟨own_grown h.1 hg hr, h.2.1, fun i hi => own_grown (h.2.2.1 i hi) hg hr, h.2.2.2⟩
theorem OsOwn.lt (h : OsOwn w base (.slice (some ⟨b, 0, none⟩) n n) n os G) : b < w.heap.size ∧ ∀ i, i < n → G i < w.heap.size :=
  ⟨(h.1.lt b rfl).2, fun i hi => ((h.2.2.1 i hi).lt (G i) rfl).2⟩
theorem own_keep {bs size m : Nat} {e : TypeId} {u : Value} {xs : List Value} (h : w.ownsRow bs e size u m xs) (hk : OmKeep b n G w w') (hb : b < bs ∧ ∀ i, i < n → G i < bs) : w'.ownsRow bs e size u m xs := by
  refine hk _ _ _ _ _ _ ?_ h
  by_cases c : u.ownBlock = none
  · exact .inl c
  · refine .inr ⟨fun q => ?_, fun i hi q => ?_⟩
    · have := (h.lt _ q).1
      omega
    · have := (h.lt _ q).1
      have := hb.2 i hi
      omega
theorem Om.at_tot (os : List Opr) (n : Nat) : Om.at (fun i => os.getD i Opr.z) n = Os.tot os n + 4 * n := by
  induction n with
  | zero => rfl
  | succ n ih =>
    have e : Om.at (fun i => os.getD i Opr.z) (n + 1) = Om.at (fun i => os.getD i Opr.z) n + ((os.getD n Opr.z).p.length + 4) := rfl
    have e' : Os.tot os (n + 1) = Os.tot os n + (os.getD n Opr.z).p.length := rfl
    omega
theorem Os.path_le {N : Nat} (hl : os.length = n) (h : Os.tot os n ≤ N) (i : Nat) : (os.getD i Opr.z).p.length ≤ N := by
  by_cases hi : i < n
  · exact Nat.le_trans (Os.tot_one os hi) h
  · rw [List.getD_eq_getElem?_getD, List.getElem?_eq_none (by omega)]
    exact Nat.zero_le _
end

end Go.Proofs.Ytofpcedpmbecgaa

/- Contracts (Cb10). -/
namespace Go.Proofs.Ytofpcedpmbecgaa
open Go.RowKit
set_option linter.unusedVariables false

section
variable {wa wx wy : World} {p0 p1 p2 p3 p4 p5 p6 p7 p8 p9 : Addr} {v0 v1 v2 v3 v4 v5 v6 v7 v8 v9 : Value}
theorem c10_below (h : wx.cell? p0 = some v0 ∧ wx.cell? p1 = some v1 ∧ wx.cell? p2 = some v2 ∧ wx.cell? p3 = some v3 ∧ wx.cell? p4 = some v4 ∧ wx.cell? p5 = some v5 ∧ wx.cell? p6 = some v6 ∧ wx.cell? p7 = some v7 ∧ wx.cell? p8 = some v8 ∧ wx.cell? p9 = some v9 ∧ BelA wa wx) : Below wa.heap.size wa wx := h.2.2.2.2.2.2.2.2.2.2
theorem c10_keep (h : wx.cell? p0 = some v0 ∧ wx.cell? p1 = some v1 ∧ wx.cell? p2 = some v2 ∧ wx.cell? p3 = some v3 ∧ wx.cell? p4 = some v4 ∧ wx.cell? p5 = some v5 ∧ wx.cell? p6 = some v6 ∧ wx.cell? p7 = some v7 ∧ wx.cell? p8 = some v8 ∧ wx.cell? p9 = some v9 ∧ BelA wa wx) (hb : Below wx.heap.size wx wy) : wy.cell? p0 = some v0 ∧ wy.cell? p1 = some v1 ∧ wy.cell? p2 = some v2 ∧ wy.cell? p3 = some v3 ∧ wy.cell? p4 = some v4 ∧ wy.cell? p5 = some v5 ∧ wy.cell? p6 = some v6 ∧ wy.cell? p7 = some v7 ∧ wy.cell? p8 = some v8 ∧ wy.cell? p9 = some v9 ∧ BelA wa wy := by
  have c : ∀ {p : Addr} {v : Value}, wx.cell? p = some v → wy.cell? p = some v := fun hc => (hb.cell (World.block_lt_of_cell? _ _ hc)).trans hc
  exact ⟨c h.1, c h.2.1, c h.2.2.1, c h.2.2.2.1, c h.2.2.2.2.1, c h.2.2.2.2.2.1, c h.2.2.2.2.2.2.1, c h.2.2.2.2.2.2.2.1, c h.2.2.2.2.2.2.2.2.1, c h.2.2.2.2.2.2.2.2.2.1, h.2.2.2.2.2.2.2.2.2.2.trans (hb.mono h.2.2.2.2.2.2.2.2.2.2.size)⟩
end

end Go.Proofs.Ytofpcedpmbecgaa

/- Contracts (OsE). -/
namespace Go.Proofs.Ytofpcedpmbecgaa
open Go.RowKit
set_option linter.unusedVariables false

set_option maxHeartbeats 3200000 in
set_option maxRecDepth 100000 in
theorem eqOpS_any (A A' : Option Addr) (n c c' : Nat) (os : List Opr) (w : World) (h : OpsIn w w.heap.size A n os) (h' : OpsIn w w.heap.size A' n os) (hn : n ≤ 1048576) (hp : ∀ i, (os.getD i Opr.z).p.length ≤ 1048576) :
    Calls Try.prog 50 #[.slice A n c, .slice A' n c'] w fun e w' => e = .returned (.bool true) ∧ Below w.heap.size w w' := by
  have H := Lib.hid h
  have H' := Lib.hid h'
  have HP := Lib.hid hp
  clear h h' hp
  go_enter Try.func50, Try.ntmps50
  go_wp2
  go_loopw [5] (fun iv wr => ∃ i : Nat, i ≤ n ∧ iv = .int .i64 i ∧ Below w.heap.size w wr) (fun i _ => n - (intOf i).toNat)
  case atStart => exact ⟨0, by omega, by go_num, Below.refl _ _⟩
  case round =>
    obtain ⟨i, hi, rfl, hB⟩ := hrel
    have HB := Lib.hid hB
    have HO := Lib.hid (H.out.to_below hB)
    have HO' := Lib.hid (H'.out.to_below hB)
    clear hB
    by_cases hlt : i < n
    · obtain ⟨ad, P, pq, rfl, y0, y1, y2, y3, y4, hI⟩ := HO.out.at_ hlt
      obtain ⟨bd, P', pq', rfl, z0, z1, z2, z3, z4, hI'⟩ := HO'.out.at_ hlt
      have HPi := Lib.hid (HP.out i)
      obtain ⟨o, ho⟩ : ∃ o, o = os.getD i Opr.z := ⟨_, rfl⟩
      rw [← ho] at y0 y1 y2 y3 y4 z0 z1 z2 z3 z4 HPi hI hI'
      clear ho
      obtain ⟨K, p, Ka, Kf, Kz⟩ := o
      dsimp only at y0 y1 y2 y3 y4 z0 z1 z2 z3 z4 HPi hI hI'
      have HI := Lib.hid hI
      have HI' := Lib.hid hI'
      have b0 : (0 : Int) ≤ (i : Int) := by omega
      have b1 : (i : Int) < (n : Int) := by omega
      have S0 := Lib.hid (show wr.drew.cell? (ad.add (i * 5)) = some (.int .i64 K) ∧ wr.drew.cell? ⟨(ad.add (i * 5)).block, (ad.add (i * 5)).off + 1, none⟩ = some (.slice P p.length pq) ∧ wr.drew.cell? ⟨(ad.add (i * 5)).block, (ad.add (i * 5)).off + 2, none⟩ = some (.int .i64 Ka) ∧ wr.drew.cell? ⟨(ad.add (i * 5)).block, (ad.add (i * 5)).off + 3, none⟩ = some (.int .i64 Kf) ∧ wr.drew.cell? ⟨(ad.add (i * 5)).block, (ad.add (i * 5)).off + 4, none⟩ = some (.int .i64 Kz) ∧ wr.drew.cell? (bd.add (i * 5)) = some (.int .i64 K) ∧ wr.drew.cell? ⟨(bd.add (i * 5)).block, (bd.add (i * 5)).off + 1, none⟩ = some (.slice P' p.length pq') ∧ wr.drew.cell? ⟨(bd.add (i * 5)).block, (bd.add (i * 5)).off + 2, none⟩ = some (.int .i64 Ka) ∧ wr.drew.cell? ⟨(bd.add (i * 5)).block, (bd.add (i * 5)).off + 3, none⟩ = some (.int .i64 Kf) ∧ wr.drew.cell? ⟨(bd.add (i * 5)).block, (bd.add (i * 5)).off + 4, none⟩ = some (.int .i64 Kz) ∧ BelA wr wr.drew from ⟨y0, y1, y2, y3, y4, z0, z1, z2, z3, z4, (Drawn.refl _).drew.toBelow⟩)
      have CE := Lib.hid (fun (wq : World) (hb : Below wr.heap.size wr wq) => eqOp_any K Ka Kf Kz p P P' p.length pq p.length pq' wq (HI.out.to_below hb) (HI'.out.to_below hb) HPi.out HPi.out)
      clear hI hI' y0 y1 y2 y3 y4 z0 z1 z2 z3 z4
      go_wp2_with fail
      go_region_held3 (fun wq => wq.cell? (ad.add (i * 5)) = some (.int .i64 K) ∧ wq.cell? ⟨(ad.add (i * 5)).block, (ad.add (i * 5)).off + 1, none⟩ = some (.slice P p.length pq) ∧ wq.cell? ⟨(ad.add (i * 5)).block, (ad.add (i * 5)).off + 2, none⟩ = some (.int .i64 Ka) ∧ wq.cell? ⟨(ad.add (i * 5)).block, (ad.add (i * 5)).off + 3, none⟩ = some (.int .i64 Kf) ∧ wq.cell? ⟨(ad.add (i * 5)).block, (ad.add (i * 5)).off + 4, none⟩ = some (.int .i64 Kz) ∧ wq.cell? (bd.add (i * 5)) = some (.int .i64 K) ∧ wq.cell? ⟨(bd.add (i * 5)).block, (bd.add (i * 5)).off + 1, none⟩ = some (.slice P' p.length pq') ∧ wq.cell? ⟨(bd.add (i * 5)).block, (bd.add (i * 5)).off + 2, none⟩ = some (.int .i64 Ka) ∧ wq.cell? ⟨(bd.add (i * 5)).block, (bd.add (i * 5)).off + 3, none⟩ = some (.int .i64 Kf) ∧ wq.cell? ⟨(bd.add (i * 5)).block, (bd.add (i * 5)).off + 4, none⟩ = some (.int .i64 Kz) ∧ BelA wr wq) (first | (with_reducible exact SD) | (with_reducible exact S0.out)) (first | (go_at_call 46; refine (CE.out _ (c10_below (by assumption))).mono ?_; rintro e w5 ⟨rfl, hb5⟩; have SD := c10_keep S0.out hb5))
      have HB2 := Lib.hid (HB.out.trans ((c10_below SD).mono HB.out.size))
      clear SD
      go_wp2
      go_roundw
      case rel => exact ⟨i + 1, by omega, by go_num, HB2.out⟩
      case measure => simp [intOf]; omega
    · obtain rfl : i = n := by omega
      go_wp2
      go_ret
      exact ⟨rfl, HB.out⟩

end Go.Proofs.Ytofpcedpmbecgaa
