/- Texts of one claim laid into one file, in build order: CostD, StepF. -/
import Derived.Test.YtnfjdlocmdgefaaEa1
import Derived.Test.YtnfjdlocmdgefaaEa12
import Derived.Test.YtnfjdlocmdgefaaEa2
import Derived.Test.YtnfjdlocmdgefaaEa29
import Derived.Test.YtnfjdlocmdgefaaEa32
import Derived.Test.YtnfjdlocmdgefaaEa4
import Derived.Deep.RegionHeld3
import Derived.Deep.RegionLaw
import Derived.Outline
import Derived.StillTailTactics
/- Contracts (CostD). -/
namespace Go.Proofs.Ytnfjdlocmdgefaa
open Go.RowKit
set_option linter.unusedVariables false

set_option maxHeartbeats 3200000 in
set_option maxRecDepth 100000 in
theorem l7Cost_ex (w : World) (B : Nat) (k : Code) (c : CurX w B k) :
    Calls Try.prog 57 #[.pointer (some ⟨B, 0, none⟩)] w (CostD w B k) := by
  have HC := Lib.hid c
  have hBB := Lib.hid c.lt
  clear c
  obtain ⟨wz, hwz⟩ : ∃ wz, wz = w.alloc (.cells #[.slice none 0 0, .slice none 0 0, .slice none 0 0] 27) := ⟨_, rfl⟩
  have HX := Lib.hid (show Box3 wz w.heap.size (.slice none 0 0) (.slice none 0 0) (.slice none 0 0) by rw [hwz]; exact Box3.made _ _ _ _ _)
  have HF := Lib.hid (show ∀ off, wz.frozen? ⟨w.heap.size, off, none⟩ = false by rw [hwz]; exact fun off => by simp)
  have HG := Lib.hid (show w.grownBy wz (some B) by rw [hwz]; exact Kit.grown_alloc _ _ _)
  have HS := Lib.hid (show w.heap.size < wz.heap.size by rw [hwz]; simp)
  have HC := Lib.hid (show CurX wz B k by rw [hwz]; exact HC.out.alloc _)
  go_enter Try.func57, Try.ntmps57
  go_wp2_with fail
  rw [← hwz]
  clear hwz
  refine (specUnitCost_any _).mono ?_
  rintro e w1 ⟨A0, A1, A2, c0, c1, c2, rfl, o0, o1, o2, a01, a02, a12, hb⟩
  obtain ⟨h0, rfl⟩ := own_h o0 (by decide)
  obtain ⟨h1, rfl⟩ := own_h o1 (by decide)
  obtain ⟨h2, rfl⟩ := own_h o2 (by decide)
  have hsl := HS.out
  have hzs := hb.size
  have gb := Kit.grown_of_below hb
  have HD := Lib.hid (CoD.made (k := k) (w0 := w) (wz := wz) (w1 := w1) (B := B) (s := w.heap.size) (HC.out.kept gb (fun b e => by cases e)) (Kit.grown_trans HG.out (Kit.grown_none gb)) hBB.out (Nat.le_refl _) HS.out (HX.out.below hb HS.out) (free_kept gb HS.out (fun b e => by cases e) HF.out) (by omega) o0 o1 o2 ⟨a01.ne, a02.ne, a12.ne⟩)
  obtain ⟨g, eg⟩ : ∃ g, g = w1.heap.size := ⟨_, rfl⟩
  obtain ⟨wc, hwc⟩ : ∃ wc, wc = w1.alloc (.cells #[.slice (some ⟨h0, 0, none⟩) 6 c0, .slice (some ⟨h1, 0, none⟩) 6 c1, .slice (some ⟨h2, 0, none⟩) 36 c2] 27) := ⟨_, rfl⟩
  obtain ⟨L0, eL0⟩ : ∃ L, L = Co.unit.d := ⟨_, rfl⟩
  obtain ⟨L1, eL1⟩ : ∃ L, L = Co.unit.i := ⟨_, rfl⟩
  obtain ⟨L2, eL2⟩ : ∃ L, L = Co.unit.r := ⟨_, rfl⟩
  rw [← eg, ← eL0, ← eL1, ← eL2] at HD
  have HD := Lib.hid (show CoD w B w.heap.size g k h0 h1 h2 c0 c1 c2 L0 L1 L2 wc by rw [hwc]; exact HD.out)
  clear o0 o1 o2 a01 a02 a12 hb gb hsl hzs HX HF HG HS HC eL0 eL1 eL2
  go_wp2_with fail
  rw [show (Co.unit.d.length) = 6 from rfl, show Co.unit.i.length = 6 from rfl, show Co.unit.r.length = 36 from rfl]
  rw [← hwc]
  rw [← eg]
  clear hwc eg
  refine (l1Below_ex _ B k _ HD.out.cursor).mono ?_
  rintro e w2 ⟨u, rfl, hu, cv, gv⟩
  have hd := CoD.cur HD.out gv cv
  clear HD cv gv
  by_cases u0 : u = 0
  · have e0 : ((u : Int) == 0) = true := by simp [u0]
    have E := Lib.hid fun u0 u1 u2 => CoD.done hd u0 u1 u2
    obtain ⟨⟨x0, x1, x2⟩, hf, ⟨y0, y1, y2⟩, _⟩ := hd
    have f0 := hf 0
    have f1 := hf 1
    have f2 := hf 2
    clear hf
    go_wp2
    (try simp only [Exit.inBlock, Exit.then])
    refine bodyPost_ret (v := .agg #[.slice (some ⟨h0, 0, none⟩) 6 c0, .slice (some ⟨h1, 0, none⟩) 6 c1, .slice (some ⟨h2, 0, none⟩) 36 c2]) ?_ rfl ?_
    · rw [results_cell1 rfl]
      go_simp
    · exact E.out _ _ _
  · have e0 : ((u : Int) == 0) = false := beq_eq_false_iff_ne.2 (by omega)
    by_cases u1 : u = 1
    · have e1 : ((u : Int) == 1) = true := by simp [u1]
      have HD := Lib.hid hd
      clear hd
      go_wp2
      go_loopw [4] (fun iv wr => ∃ (i : Nat) (L : List Int), i ≤ 36 ∧ iv = .int .i64 i ∧ CoD w B w.heap.size g k h0 h1 h2 c0 c1 c2 L0 L1 L wr) (fun i _ => 36 - (intOf i).toNat)
      case atStart => exact ⟨0, L2, Nat.zero_le _, rfl, HD.out⟩
      case round =>
        clear HD
        obtain ⟨i, L, hi, rfl, hd⟩ := hrel
        have HD := Lib.hid hd
        clear hd
        by_cases hlt : i < 36
        · have k0 : decide ((i : Int) < 36) = true := by simp; omega
          have k1 : (0 : Int) ≤ (i : Int) := by omega
          have k2 : (i : Int) < 36 := by omega
          obtain ⟨x0, x1, x2⟩ := CoD.held HD.out
          obtain ⟨ec, ef⟩ := CoD.cell2 HD.out (j := i) hlt
          obtain ⟨z, hz⟩ : ∃ z, z = Zs.at L i := ⟨_, rfl⟩
          rw [← hz] at ec
          clear hz
          go_wp2_with fail
          go_still_tail 10, (by kernel_rfl)
          change wpList _ _ _ _ _ wr.drew
          go_wp2
          go_roundw
          case rel => exact ⟨i + 1, _, by omega, by go_num, CoD.put2 HD.out.drew i _⟩
          case measure => simp [intOf]; omega
        · obtain rfl : i = 36 := by omega
          have k0 : decide (((36 : Nat) : Int) < 36) = false := rfl
          have hd := HD.out
          obtain ⟨xx0, xx1, xx2⟩ := CoD.held HD.out
          clear HD
          have E := Lib.hid fun u0 u1 u2 => CoD.done hd u0 u1 u2
          obtain ⟨⟨x0, x1, x2⟩, hf, ⟨y0, y1, y2⟩, _⟩ := hd
          have f0 := hf 0
          have f1 := hf 1
          have f2 := hf 2
          clear hf
          go_wp2
          (try simp only [Exit.inBlock, Exit.then])
          refine bodyPost_ret (v := .agg #[.slice (some ⟨h0, 0, none⟩) 6 c0, .slice (some ⟨h1, 0, none⟩) 6 c1, .slice (some ⟨h2, 0, none⟩) 36 c2]) ?_ rfl ?_
          · rw [results_cell1 rfl]
            go_simp
          · exact E.out _ _ _
    · have e1 : ((u : Int) == 1) = false := beq_eq_false_iff_ne.2 (by omega)
      have HD := Lib.hid hd
      clear hd
      go_wp2
      go_loopw [5] (fun iv wr => ∃ (i : Nat) (K0 K1 K2 : List Int), i ≤ 6 ∧ iv = .int .i64 i ∧ CoD w B w.heap.size g k h0 h1 h2 c0 c1 c2 K0 K1 K2 wr) (fun i _ => 6 - (intOf i).toNat)
      case atStart => exact ⟨0, L0, L1, L2, Nat.zero_le _, rfl, HD.out⟩
      case round =>
        clear HD
        obtain ⟨i, K0, K1, K2, hi, rfl, hd⟩ := hrel
        have HD := Lib.hid hd
        clear hd
        by_cases hlt : i < 6
        · have k0 : decide ((i : Int) < 6) = true := by simp; omega
          have k1 : (0 : Int) ≤ (i : Int) := by omega
          have k2 : (i : Int) < 6 := by omega
          go_wp2_with fail
          have S0 := Lib.hid (CoD.held HD.out.drew)
          go_region_held3 (fun wq => wq.cell? ⟨g, 0, none⟩ = some (.slice (some ⟨h0, 0, none⟩) 6 c0) ∧ wq.cell? ⟨g, 1, none⟩ = some (.slice (some ⟨h1, 0, none⟩) 6 c1) ∧ wq.cell? ⟨g, 2, none⟩ = some (.slice (some ⟨h2, 0, none⟩) 36 c2)) (first | exact S0.out | exact CoD.held hd | exact CoD.held (CoD.put0 hd _ _) | exact CoD.held (CoD.alloc HD.out.drew _)) (first | (go_at_call 58; refine (l1Below_ex _ B k _ (CoD.cursor HD.out.drew)).mono ?_; rintro e w5 ⟨v, rfl, hvv, cv, gv⟩; have hd := CoD.cur HD.out.drew gv cv; obtain ⟨e0c, e0f⟩ := CoD.cell0 hd (j := i) (by omega)))
          have hd := CoD.put0 hd i (v : Int)
          have HD := Lib.hid hd
          clear hd S0 cv gv hvv e0c e0f
          go_wp2_with fail
          have S0 := Lib.hid (CoD.held HD.out.drew)
          go_region_held3 (fun wq => wq.cell? ⟨g, 0, none⟩ = some (.slice (some ⟨h0, 0, none⟩) 6 c0) ∧ wq.cell? ⟨g, 1, none⟩ = some (.slice (some ⟨h1, 0, none⟩) 6 c1) ∧ wq.cell? ⟨g, 2, none⟩ = some (.slice (some ⟨h2, 0, none⟩) 36 c2)) (first | exact S0.out | exact CoD.held hd | exact CoD.held (CoD.put1 hd _ _) | exact CoD.held (CoD.alloc HD.out.drew _)) (first | (go_at_call 58; refine (l1Below_ex _ B k _ (CoD.cursor HD.out.drew)).mono ?_; rintro e w6 ⟨x, rfl, hvx, cv, gv⟩; have hd := CoD.cur HD.out.drew gv cv; obtain ⟨e1c, e1f⟩ := CoD.cell1 hd (j := i) (by omega)))
          have hd := CoD.put1 hd i (x : Int)
          have HD := Lib.hid hd
          clear hd S0 cv gv hvx e1c e1f
          go_wp2
          go_loopw [6] (fun jv wq => ∃ (j : Nat) (K0 K1 K2 : List Int), j ≤ 6 ∧ jv = .int .i64 j ∧ CoD w B w.heap.size g k h0 h1 h2 c0 c1 c2 K0 K1 K2 wq) (fun j _ => 6 - (intOf j).toNat)
          case atStart => exact ⟨0, _, _, _, Nat.zero_le _, rfl, HD.out⟩
          case round =>
            clear HD
            obtain ⟨j, M0, M1, M2, hj, rfl, hd⟩ := hrel
            have HD := Lib.hid hd
            clear hd
            by_cases hlj : j < 6
            · have q0 : decide ((j : Int) < 6) = true := by simp; omega
              have q1 : (0 : Int) ≤ (j : Int) := by omega
              by_cases hij : i = j
              · have q3 : ((i : Int) != (j : Int)) = false := by simp [hij]
                go_wp2
                go_roundw
                case rel => exact ⟨j + 1, M0, M1, M2, by omega, by go_num, HD.out⟩
                case measure => simp [intOf]; omega
              · have q3 : ((i : Int) != (j : Int)) = true := by simp; omega
                obtain ⟨q, hq⟩ : ∃ q, q = i * 6 := ⟨_, rfl⟩
                obtain ⟨p, hp⟩ : ∃ p, p = q + j := ⟨_, rfl⟩
                have m1 : IntKind.i64.wrap ((i : Int) * 6) = (i : Int) * 6 := Kit.w64 (by omega) (by omega)
                have m2 : IntKind.i64.wrap ((i : Int) * 6 + (j : Int)) = (p : Int) := by rw [Kit.w64 (by omega) (by omega)]; omega
                have p0 : (0 : Int) ≤ (p : Int) := by omega
                have p1 : (p : Int) < 36 := by omega
                have hp36 : p < 36 := by omega
                clear hp hq
                go_wp2_with fail
                have S0 := Lib.hid (CoD.held HD.out.drew)
                go_region_held3 (fun wq => wq.cell? ⟨g, 0, none⟩ = some (.slice (some ⟨h0, 0, none⟩) 6 c0) ∧ wq.cell? ⟨g, 1, none⟩ = some (.slice (some ⟨h1, 0, none⟩) 6 c1) ∧ wq.cell? ⟨g, 2, none⟩ = some (.slice (some ⟨h2, 0, none⟩) 36 c2)) (first | exact S0.out | exact CoD.held hd | exact CoD.held (CoD.put2 hd _ _) | exact CoD.held (CoD.alloc HD.out.drew _)) (first | (go_at_call 83; refine (l1PickInt_lit _ B k (CoD.cursor HD.out.drew) _ _ [0, 1, 4, 9, 1000] 5 rfl rfl (by decide) (by decide)).mono ?_; rintro e w7 ⟨y, rfl, cv, gv⟩; have hd := CoD.cur HD.out.drew gv cv; obtain ⟨e2c, e2f⟩ := CoD.cell2 hd (j := p) hp36))
                have hd := CoD.put2 hd p y
                go_wp2
                go_roundw
                case rel => exact ⟨j + 1, _, _, _, by omega, by go_num, hd⟩
                case measure => simp [intOf]; omega
            · obtain rfl : j = 6 := by omega
              have q0 : decide (((6 : Nat) : Int) < 6) = false := rfl
              go_wp2
              go_roundw
              case rel => exact ⟨i + 1, M0, M1, M2, by omega, by go_num, HD.out⟩
              case measure => simp [intOf]; omega
        · obtain rfl : i = 6 := by omega
          have k0 : decide (((6 : Nat) : Int) < 6) = false := rfl
          have hd := HD.out
          clear HD
          have E := Lib.hid fun u0 u1 u2 => CoD.done hd u0 u1 u2
          obtain ⟨⟨x0, x1, x2⟩, hf, ⟨y0, y1, y2⟩, _⟩ := hd
          have f0 := hf 0
          have f1 := hf 1
          have f2 := hf 2
          clear hf
          go_wp2
          (try simp only [Exit.inBlock, Exit.then])
          refine bodyPost_ret (v := .agg #[.slice (some ⟨h0, 0, none⟩) 6 c0, .slice (some ⟨h1, 0, none⟩) 6 c1, .slice (some ⟨h2, 0, none⟩) 36 c2]) ?_ rfl ?_
          · rw [results_cell1 rfl]
            go_simp
          · exact E.out _ _ _

end Go.Proofs.Ytnfjdlocmdgefaa

/- Contracts (StepF). -/
namespace Go.Proofs.Ytnfjdlocmdgefaa
open Go.RowKit
set_option linter.unusedVariables false

/-- the world has only grown since -/
def BelS (w0 wq : World) : Prop := Below w0.heap.size w0 wq
theorem BelS.alloc' {w0 wx : World} (h : BelS w0 wx) (o : Obj) : BelS w0 (wx.alloc o) := Below.alloc h h.size o
theorem BelS.on {w0 wx wq : World} (h : BelS w0 wx) (hb : Below wx.heap.size wx wq) : BelS w0 wq := Below.trans h (hb.mono h.size)
theorem BelS.set3 {w0 wx : World} {g : Nat} (h : BelS w0 wx) (hg : w0.heap.size ≤ g) (u0 u1 u2 : Value) : BelS w0 (((wx.setCell ⟨g, 0, none⟩ u0).setCell ⟨g, 1, none⟩ u1).setCell ⟨g, 2, none⟩ u2) :=
  ((Below.setCell h hg u0).setCell hg u1).setCell hg u2
theorem BelS.le {w0 wq : World} (h : BelS w0 wq) : w0.heap.size ≤ wq.heap.size := h.size
/-- a new variable of three cells, nothing stored yet -/
def Zero3 (w : World) (g : Nat) : Prop := w.heap[g]? = some (.cells #[.slice none 0 0, .slice none 0 0, .slice none 0 0] 27 (0, 0))
theorem Zero3.new {w : World} {g : Nat} (h : w.heap.size = g) : Zero3 (w.alloc (.cells #[.slice none 0 0, .slice none 0 0, .slice none 0 0] 27)) g := by subst h; exact heap_alloc_new w _
theorem Zero3.lt {w : World} {g : Nat} (h : Zero3 w g) : g < w.heap.size := by
  rcases Nat.lt_or_ge g w.heap.size with h' | h'
  · exact h'
  · unfold Zero3 at h; rw [Array.getElem?_eq_none h'] at h; cases h
theorem Zero3.on {w w' : World} {g : Nat} (h : Zero3 w g) (hg : w.grownBy w' none) : Zero3 w' g := (hg.block g h.lt (fun e => by cases e)).trans h
theorem Zero3.alloc {w : World} {g : Nat} (h : Zero3 w g) (o : Obj) : Zero3 (w.alloc o) g := h.on (World.grownBy_alloc w o none)
theorem Zero3.drew {w : World} {g : Nat} (h : Zero3 w g) : Zero3 w.drew g := h
theorem Zero3.cells {w : World} {g : Nat} (h : Zero3 w g) : w.cell? ⟨g, 0, none⟩ = some (.slice none 0 0) ∧ w.cell? ⟨g, 1, none⟩ = some (.slice none 0 0) ∧ w.cell? ⟨g, 2, none⟩ = some (.slice none 0 0) ∧ w.frozen? ⟨g, 0, none⟩ = false ∧ w.frozen? ⟨g, 1, none⟩ = false ∧ w.frozen? ⟨g, 2, none⟩ = false := by
  unfold Zero3 at h
  simp [World.cell?, World.frozen?, h]
/-- three rows of the call's own and the variable that holds them: what the region leaves -/
def DoneS (w0 wq : World) (D0 D1 D2 : List Int) (g10 G0 G1 G2 e0 e1 e2 : Nat) : Prop :=
  Box3 wq g10 (.slice (some ⟨G0, 0, none⟩) 6 e0) (.slice (some ⟨G1, 0, none⟩) 6 e1) (.slice (some ⟨G2, 0, none⟩) 36 e2) ∧ wq.ownsRow w0.heap.size 3 1 (.slice (some ⟨G0, 0, none⟩) 6 e0) 6 (ints D0) ∧ wq.ownsRow w0.heap.size 3 1 (.slice (some ⟨G1, 0, none⟩) 6 e1) 6 (ints D1) ∧ wq.ownsRow w0.heap.size 3 1 (.slice (some ⟨G2, 0, none⟩) 36 e2) 36 (ints D2) ∧
  (G0 ≠ G1 ∧ G0 ≠ G2 ∧ G1 ≠ G2) ∧ BelS w0 wq ∧ w0.heap.size ≤ g10 ∧ g10 < wq.heap.size
theorem DoneS.made {w0 w7 : World} {D0 D1 D2 : List Int} {G0 G1 G2 e0 e1 e2 : Nat} (o0 : w7.ownsRow G0 3 1 (.slice (some ⟨G0, 0, none⟩) 6 e0) 6 (ints D0)) (o1 : w7.ownsRow G1 3 1 (.slice (some ⟨G1, 0, none⟩) 6 e1) 6 (ints D1)) (o2 : w7.ownsRow G2 3 1 (.slice (some ⟨G2, 0, none⟩) 36 e2) 36 (ints D2))
    (h : w0.heap.size ≤ G0 ∧ G0 < G1 ∧ G1 < G2) (hB : BelS w0 w7) : DoneS w0 (w7.alloc (.cells #[.slice (some ⟨G0, 0, none⟩) 6 e0, .slice (some ⟨G1, 0, none⟩) 6 e1, .slice (some ⟨G2, 0, none⟩) 36 e2] 27)) D0 D1 D2 w7.heap.size G0 G1 G2 e0 e1 e2 :=
  ⟨Box3.made _ _ _ _ _, own_base (o0.alloc _) (by omega), own_base (o1.alloc _) (by omega), own_base (o2.alloc _) (by omega), by omega, hB.alloc' _, hB.le, by simp⟩
theorem DoneS.stored {w0 w7 : World} {D0 D1 D2 : List Int} {g10 G0 G1 G2 e0 e1 e2 : Nat} (o0 : w7.ownsRow G0 3 1 (.slice (some ⟨G0, 0, none⟩) 6 e0) 6 (ints D0)) (o1 : w7.ownsRow G1 3 1 (.slice (some ⟨G1, 0, none⟩) 6 e1) 6 (ints D1)) (o2 : w7.ownsRow G2 3 1 (.slice (some ⟨G2, 0, none⟩) 36 e2) 36 (ints D2))
    (h : w0.heap.size ≤ G0 ∧ G0 < G1 ∧ G1 < G2) (hB : BelS w0 w7) (hz : Zero3 w7 g10) (hg : w0.heap.size ≤ g10) (hne : g10 ≠ G0 ∧ g10 ≠ G1 ∧ g10 ≠ G2) :
    DoneS w0 (((w7.setCell ⟨g10, 0, none⟩ (.slice (some ⟨G0, 0, none⟩) 6 e0)).setCell ⟨g10, 1, none⟩ (.slice (some ⟨G1, 0, none⟩) 6 e1)).setCell ⟨g10, 2, none⟩ (.slice (some ⟨G2, 0, none⟩) 36 e2)) D0 D1 D2 g10 G0 G1 G2 e0 e1 e2 := by
  have hs : ∀ u0 u1 u2, w7.grownBy (((w7.setCell ⟨g10, 0, none⟩ u0).setCell ⟨g10, 1, none⟩ u1).setCell ⟨g10, 2, none⟩ u2) (some g10) := fun _ _ _ => Kit.grown_then_set (Kit.grown_then_set (Kit.grown_set _ _ _ _) _ _) _ _
  have hl := hz.lt
  refine ⟨?_, own_base (World.ownsRow.kept o0 (hs _ _ _) (.inr (by simp [Value.ownBlock]; omega))) (by omega), own_base (World.ownsRow.kept o1 (hs _ _ _) (.inr (by simp [Value.ownBlock]; omega))) (by omega), own_base (World.ownsRow.kept o2 (hs _ _ _) (.inr (by simp [Value.ownBlock]; omega))) (by omega), by omega, BelS.set3 hB hg _ _ _, hg, by simpa using hl⟩
  unfold Zero3 at hz
  refine ⟨?_, ?_, ?_⟩ <;> simp [World.cell?, World.setCell, Array.getElem?_modify, hz]
/-- a part of a row -/
theorem IntIn.part {w : World} {B n m k : Nat} {ad : Addr} {zs : List Int} (h : IntIn w B (some ad) n zs) (hk : k + m ≤ n) (hm : 0 < m) : IntIn w B (some (ad.add k)) m ((zs.take (k + m)).drop k) := by
  refine ⟨?_, fun _ => ?_, fun a ea j hj => ?_⟩
  · have := h.1
    rw [List.length_drop, List.length_take]
    omega
  · obtain ⟨a, ea, hlt⟩ := h.2.1 (by omega)
    injection ea with ea
    subst ea
    exact ⟨_, rfl, by rw [show (ad.add k).block = ad.block by unfold Addr.add; split <;> rfl]; exact hlt⟩
  · injection ea with ea
    subst ea
    have := h.2.2 ad rfl (k + j) (by omega)
    rw [Addr.add_add, this]
    congr 2
    simp only [Zs.at, List.getD_eq_getElem?_getD, List.getElem?_drop]
    rw [List.getElem?_take_of_lt (by omega)]

end Go.Proofs.Ytnfjdlocmdgefaa
