/- Texts of one claim laid into one file, in build order: DrawBt, CostD, PutM, TblI, L7In, CostOkS, CostOkI, PutCI, TriB, StepA, PutCS, DrawGC, StepF, AnyCD. -/
import Derived.Test.YtpdpkcadolcbmaaDoorMg3
import Derived.BigQuiet
import Derived.Deep.QuietTactic
import Derived.Deep.RegionHeld3
import Derived.Deep.RegionLaw
import Derived.Outline
import Derived.StillTailTactics
import Derived.Test.YtpdpkcadolcbmaaDoorRows
/- Contracts (DrawBt). -/
namespace Go.Proofs.YtpdpkcadolcbmaaDoor
open Go.RowKit
set_option linter.unusedVariables false

set_option maxHeartbeats 3200000 in
set_option maxRecDepth 100000 in
theorem l4Bytes_ex (w : World) (B : Nat) (k : Code) (c : CurX w B k) :
    Calls Tryd.prog 29 #[.pointer (some ⟨B, 0, none⟩), .int .i64 10] w fun e w' => ∃ u, e = .returned (.string u) ∧ u.size ≤ 2000 ∧ CurX w' B k ∧ w.grownBy w' (some B) := by
  have HC := Lib.hid c
  have hBB := Lib.hid c.lt
  have HG := Lib.hid (Kit.grown_refl w (some B))
  clear c
  go_enter Tryd.func29, Tryd.ntmps29
  go_wp2_with fail
  refine (l3Tree_ex w B k 10 (by decide) HC.out).mono ?_
  rintro e w1 ⟨xs, A, cp, rfl, ho, ⟨hl1, hl2⟩, hbd, c, g⟩
  have HC := Lib.hid c
  have HG := Lib.hid (Kit.grown_trans HG.out g)
  have HN := Lib.hid (NdIn.of_own ho)
  obtain ⟨S, eS⟩ : ∃ S, S = Tr.put xs := ⟨_, rfl⟩
  have HZ := Lib.hid (show S.size ≤ 343 by
    rw [eS]
    unfold Tr.put
    split
    · have := Tr.putTo_size xs xs.length; omega
    · exact Nat.zero_le _)
  have HES := Lib.hid eS
  clear c g hbd ho eS
  go_wp2_with fail
  refine (specPutTree_any _ _ _ xs _ HN.out (by omega)).mono ?_
  rintro e w2 ⟨rfl, hb⟩
  have HC := Lib.hid (HC.out.kept (Kit.grown_of_below hb) (fun b e => by cases e))
  have HG := Lib.hid (Kit.grown_trans HG.out (Kit.grown_none (Kit.grown_of_below hb)))
  rw [← HES.out]
  clear hb
  have zS : S.size ≤ 343 := HZ.out
  go_wp2_with fail
  refine (l1Below_ex _ B k _ HC.out).mono ?_
  rintro e w5 ⟨v, rfl, hvv, c, g⟩
  have HC := Lib.hid c
  have HG := Lib.hid (Kit.grown_trans HG.out g)
  clear c g
  by_cases v0 : v = 0
  · have e0 : ((v : Int) == 0) = true := by simp [v0]
    go_wp2_with fail
    refine (l1Spoil_ex _ B k _ (by omega) HC.out).mono ?_
    rintro e w6 ⟨u, rfl, hu, c, g⟩
    go_wp2
    go_ret
    exact ⟨u, rfl, hu, c, Kit.grown_trans HG.out g⟩
  · have e0 : ((v : Int) == 0) = false := beq_eq_false_iff_ne.2 (by omega)
    by_cases v1 : v = 1
    · have e1 : ((v : Int) == 1) = true := by simp [v1]
      have a1 : IntKind.i64.wrap ((S.size : Int) + 1) = (S.size : Int) + 1 := Kit.w64 (by omega) (by omega)
      go_wp2_with fail
      refine (l1Below_ex _ B k _ HC.out).mono ?_
      rintro e w6 ⟨x, rfl, hvx, c, g⟩
      have HC := Lib.hid c
      have HG := Lib.hid (Kit.grown_trans HG.out g)
      clear c g
      have k0 : (0 : Int) ≤ (x : Int) := by omega
      have k1 : (x : Int) ≤ (S.size : Int) := by omega
      have HX := Lib.hid (show (S.extract 0 x).size ≤ 2000 by rw [ByteArray.size_extract]; omega)
      clear hvx
      go_wp2
      go_ret
      exact ⟨_, rfl, HX.out, HC.out, HG.out⟩
    · have e1 : ((v : Int) == 1) = false := beq_eq_false_iff_ne.2 (by omega)
      by_cases v2 : v = 2
      · have e2 : ((v : Int) == 2) = true := by simp [v2]
        go_wp2_with fail
        refine (l1Pick_two _ B k HC.out _ _ (by decide) (by decide) _).mono ?_
        rintro e w6 ⟨u, rfl, hu, c, g⟩
        have y : ¬ 9223372036854775807 < S.size + u.size := by omega
        have HX := Lib.hid (show (S ++ u).size ≤ 2000 by rw [ByteArray.size_append]; omega)
        go_wp2
        go_ret
        exact ⟨_, rfl, HX.out, c, Kit.grown_trans HG.out g⟩
      · have e2 : ((v : Int) == 2) = false := beq_eq_false_iff_ne.2 (by omega)
        by_cases v3 : v = 3
        · have e3 : ((v : Int) == 3) = true := by simp [v3]
          go_wp2_with fail
          refine (l1Text_ex _ B k 5 (by decide) (by decide) HC.out).mono ?_
          rintro e w6 ⟨u, rfl, hu, c, g⟩
          go_wp2
          go_ret
          exact ⟨u, rfl, hu, c, Kit.grown_trans HG.out g⟩
        · have e3 : ((v : Int) == 3) = false := beq_eq_false_iff_ne.2 (by omega)
          go_wp2
          go_ret
          exact ⟨_, rfl, by omega, HC.out, HG.out⟩
set_option maxHeartbeats 400000 in
theorem drawGetTree_ex (w : World) (k : Code) (hcode : CodeIn w w.heap.size k.a k.cs) (hlen : k.cs.length ≤ 1048576) :
    Calls Tryd.prog 10 #[.slice k.a k.cs.length k.cap] w fun e w' => ∃ u, e = .returned (.string u) ∧ u.size ≤ 2000 ∧ Below w.heap.size w w' := by
  have HC := Lib.hid hcode
  clear hcode
  go_enter Tryd.func10, Tryd.ntmps10
  go_wp2_with fail
  refine (l1New_ex _ k HC.out hlen).mono ?_
  rintro e w1 ⟨rfl, c, g1⟩
  have HX := Lib.hid c
  have HG := Lib.hid g1
  clear c g1
  go_wp2_with fail
  refine (l4Bytes_ex _ _ k HX.out).mono ?_
  rintro e w2 ⟨u, rfl, hu, c, g2⟩
  have HB := Lib.hid (((Below.refl w.heap.size w).grown HG.out (Nat.le_refl _) (fun _ h => by cases h)).trans (Kit.below_of_grown g2 (fun k hk => by injection hk with hk; omega) HG.out.size))
  clear c g2
  go_wp2
  go_ret
  exact ⟨u, rfl, hu, HB.out⟩
set_option maxHeartbeats 400000 in
theorem drawPutTree_ex (w : World) (k : Code) (hcode : CodeIn w w.heap.size k.a k.cs) (hlen : k.cs.length ≤ 1048576) :
    Calls Tryd.prog 5 #[.slice k.a k.cs.length k.cap] w fun e w' => ∃ (xs : Tr) (A : Option Addr) (n cp : Nat), e = .returned (.slice A n cp) ∧ NdIn w' w'.heap.size A n xs ∧ n ≤ cp ∧ n ≤ 31 ∧ Below w.heap.size w w' := by
  have HC := Lib.hid hcode
  clear hcode
  go_enter Tryd.func5, Tryd.ntmps5
  go_wp2_with fail
  refine (l1New_ex _ k HC.out hlen).mono ?_
  rintro e w1 ⟨rfl, c, g1⟩
  have HX := Lib.hid c
  have HG := Lib.hid g1
  clear c g1
  go_wp2_with fail
  refine (l3Any_ex _ _ k 14 (by decide) HX.out).mono ?_
  rintro e w2 ⟨xs, A, n, cp, rfl, hn, hcp, hn31, c, g2⟩
  have HB := Lib.hid (((Below.refl w.heap.size w).grown HG.out (Nat.le_refl _) (fun _ h => by cases h)).trans (Kit.below_of_grown g2 (fun k hk => by injection hk with hk; omega) HG.out.size))
  have HN := Lib.hid hn.1
  clear c g2 hn
  go_wp2
  go_ret
  exact ⟨xs, A, n, cp, rfl, HN.out, hcp, hn31, HB.out⟩

end Go.Proofs.YtpdpkcadolcbmaaDoor

/- Contracts (CostD). -/
namespace Go.Proofs.YtpdpkcadolcbmaaDoor
open Go.RowKit
set_option linter.unusedVariables false

set_option maxHeartbeats 3200000 in
set_option maxRecDepth 100000 in
theorem l7Cost_ex (w : World) (B : Nat) (k : Code) (c : CurX w B k) :
    Calls Tryd.prog 36 #[.pointer (some ⟨B, 0, none⟩)] w (CostD w B k) := by
  have HC := Lib.hid c
  have hBB := Lib.hid c.lt
  clear c
  obtain ⟨wz, hwz⟩ : ∃ wz, wz = w.alloc (.cells #[.slice none 0 0, .slice none 0 0, .slice none 0 0] 35) := ⟨_, rfl⟩
  have HX := Lib.hid (show Box3 wz w.heap.size (.slice none 0 0) (.slice none 0 0) (.slice none 0 0) by rw [hwz]; exact Box3.made _ _ _ _ _)
  have HF := Lib.hid (show ∀ off, wz.frozen? ⟨w.heap.size, off, none⟩ = false by rw [hwz]; exact fun off => by simp)
  have HG := Lib.hid (show w.grownBy wz (some B) by rw [hwz]; exact Kit.grown_alloc _ _ _)
  have HS := Lib.hid (show w.heap.size < wz.heap.size by rw [hwz]; simp)
  have HC := Lib.hid (show CurX wz B k by rw [hwz]; exact HC.out.alloc _)
  go_enter Tryd.func36, Tryd.ntmps36
  go_wp2_with fail
  rw [← hwz]
  clear hwz
  refine (specUnitCost_any _).mono ?_
  rintro e w1 ⟨A0, A1, A2, c0, c1, c2, rfl, o0, o1, o2, a01, a02, a12, hb⟩
  obtain ⟨h0, rfl⟩ := own_h o0 (by decide)
  obtain ⟨h1, rfl⟩ := own_h o1 (by decide)
  obtain ⟨h2, rfl⟩ := own_h o2 (by decide)
  have hsl := HS.out
  have hzs := hb.size
  have gb := Kit.grown_of_below hb
  have HD := Lib.hid (CoD.made (k := k) (w0 := w) (wz := wz) (w1 := w1) (B := B) (s := w.heap.size) (HC.out.kept gb (fun b e => by cases e)) (Kit.grown_trans HG.out (Kit.grown_none gb)) hBB.out (Nat.le_refl _) HS.out (HX.out.below hb HS.out) (free_kept gb HS.out (fun b e => by cases e) HF.out) (by omega) o0 o1 o2 ⟨a01.ne, a02.ne, a12.ne⟩)
  obtain ⟨g, eg⟩ : ∃ g, g = w1.heap.size := ⟨_, rfl⟩
  obtain ⟨wc, hwc⟩ : ∃ wc, wc = w1.alloc (.cells #[.slice (some ⟨h0, 0, none⟩) 6 c0, .slice (some ⟨h1, 0, none⟩) 6 c1, .slice (some ⟨h2, 0, none⟩) 36 c2] 35) := ⟨_, rfl⟩
  obtain ⟨L0, eL0⟩ : ∃ L, L = Co.unit.d := ⟨_, rfl⟩
  obtain ⟨L1, eL1⟩ : ∃ L, L = Co.unit.i := ⟨_, rfl⟩
  obtain ⟨L2, eL2⟩ : ∃ L, L = Co.unit.r := ⟨_, rfl⟩
  rw [← eg, ← eL0, ← eL1, ← eL2] at HD
  have HD := Lib.hid (show CoD w B w.heap.size g k h0 h1 h2 c0 c1 c2 L0 L1 L2 wc by rw [hwc]; exact HD.out)
  clear o0 o1 o2 a01 a02 a12 hb gb hsl hzs HX HF HG HS HC eL0 eL1 eL2
  go_wp2_with fail
  rw [show (Co.unit.d.length) = 6 from rfl, show Co.unit.i.length = 6 from rfl, show Co.unit.r.length = 36 from rfl]
  rw [← hwc]
  rw [← eg]
  clear hwc eg
  refine (l1Below_ex _ B k _ HD.out.cursor).mono ?_
  rintro e w2 ⟨u, rfl, hu, cv, gv⟩
  have hd := CoD.cur HD.out gv cv
  clear HD cv gv
  by_cases u0 : u = 0
  · have e0 : ((u : Int) == 0) = true := by simp [u0]
    have E := Lib.hid fun u0 u1 u2 => CoD.done hd u0 u1 u2
    obtain ⟨⟨x0, x1, x2⟩, hf, ⟨y0, y1, y2⟩, _⟩ := hd
    have f0 := hf 0
    have f1 := hf 1
    have f2 := hf 2
    clear hf
    go_wp2
    (try simp only [Exit.inBlock, Exit.then])
    refine bodyPost_ret (v := .agg #[.slice (some ⟨h0, 0, none⟩) 6 c0, .slice (some ⟨h1, 0, none⟩) 6 c1, .slice (some ⟨h2, 0, none⟩) 36 c2]) ?_ rfl ?_
    · rw [results_cell1 rfl]
      go_simp
    · exact E.out _ _ _
  · have e0 : ((u : Int) == 0) = false := beq_eq_false_iff_ne.2 (by omega)
    by_cases u1 : u = 1
    · have e1 : ((u : Int) == 1) = true := by simp [u1]
      have HD := Lib.hid hd
      clear hd
      go_wp2
      go_loopw [4] (fun iv wr => ∃ (i : Nat) (L : List Int), i ≤ 36 ∧ iv = .int .i64 i ∧ CoD w B w.heap.size g k h0 h1 h2 c0 c1 c2 L0 L1 L wr) (fun i _ => 36 - (intOf i).toNat)
      case atStart => exact ⟨0, L2, Nat.zero_le _, rfl, HD.out⟩
      case round =>
        clear HD
        obtain ⟨i, L, hi, rfl, hd⟩ := hrel
        have HD := Lib.hid hd
        clear hd
        by_cases hlt : i < 36
        · have k0 : decide ((i : Int) < 36) = true := by simp; omega
          have k1 : (0 : Int) ≤ (i : Int) := by omega
          have k2 : (i : Int) < 36 := by omega
          obtain ⟨x0, x1, x2⟩ := CoD.held HD.out
          obtain ⟨ec, ef⟩ := CoD.cell2 HD.out (j := i) hlt
          obtain ⟨z, hz⟩ : ∃ z, z = Zs.at L i := ⟨_, rfl⟩
          rw [← hz] at ec
          clear hz
          go_wp2_with fail
          go_still_tail 10, (by kernel_rfl)
          change wpList _ _ _ _ _ wr.drew
          go_wp2
          go_roundw
          case rel => exact ⟨i + 1, _, by omega, by go_num, CoD.put2 HD.out.drew i _⟩
          case measure => simp [intOf]; omega
        · obtain rfl : i = 36 := by omega
          have k0 : decide (((36 : Nat) : Int) < 36) = false := rfl
          have hd := HD.out
          obtain ⟨xx0, xx1, xx2⟩ := CoD.held HD.out
          clear HD
          have E := Lib.hid fun u0 u1 u2 => CoD.done hd u0 u1 u2
          obtain ⟨⟨x0, x1, x2⟩, hf, ⟨y0, y1, y2⟩, _⟩ := hd
          have f0 := hf 0
          have f1 := hf 1
          have f2 := hf 2
          clear hf
          go_wp2
          (try simp only [Exit.inBlock, Exit.then])
          refine bodyPost_ret (v := .agg #[.slice (some ⟨h0, 0, none⟩) 6 c0, .slice (some ⟨h1, 0, none⟩) 6 c1, .slice (some ⟨h2, 0, none⟩) 36 c2]) ?_ rfl ?_
          · rw [results_cell1 rfl]
            go_simp
          · exact E.out _ _ _
    · have e1 : ((u : Int) == 1) = false := beq_eq_false_iff_ne.2 (by omega)
      have HD := Lib.hid hd
      clear hd
      go_wp2
      go_loopw [5] (fun iv wr => ∃ (i : Nat) (K0 K1 K2 : List Int), i ≤ 6 ∧ iv = .int .i64 i ∧ CoD w B w.heap.size g k h0 h1 h2 c0 c1 c2 K0 K1 K2 wr) (fun i _ => 6 - (intOf i).toNat)
      case atStart => exact ⟨0, L0, L1, L2, Nat.zero_le _, rfl, HD.out⟩
      case round =>
        clear HD
        obtain ⟨i, K0, K1, K2, hi, rfl, hd⟩ := hrel
        have HD := Lib.hid hd
        clear hd
        by_cases hlt : i < 6
        · have k0 : decide ((i : Int) < 6) = true := by simp; omega
          have k1 : (0 : Int) ≤ (i : Int) := by omega
          have k2 : (i : Int) < 6 := by omega
          go_wp2_with fail
          have S0 := Lib.hid (CoD.held HD.out.drew)
          go_region_held3 (fun wq => wq.cell? ⟨g, 0, none⟩ = some (.slice (some ⟨h0, 0, none⟩) 6 c0) ∧ wq.cell? ⟨g, 1, none⟩ = some (.slice (some ⟨h1, 0, none⟩) 6 c1) ∧ wq.cell? ⟨g, 2, none⟩ = some (.slice (some ⟨h2, 0, none⟩) 36 c2)) (first | exact S0.out | exact CoD.held hd | exact CoD.held (CoD.put0 hd _ _) | exact CoD.held (CoD.alloc HD.out.drew _)) (first | (go_at_call 37; refine (l1Below_ex _ B k _ (CoD.cursor HD.out.drew)).mono ?_; rintro e w5 ⟨v, rfl, hvv, cv, gv⟩; have hd := CoD.cur HD.out.drew gv cv; obtain ⟨e0c, e0f⟩ := CoD.cell0 hd (j := i) (by omega)))
          have hd := CoD.put0 hd i (v : Int)
          have HD := Lib.hid hd
          clear hd S0 cv gv hvv e0c e0f
          go_wp2_with fail
          have S0 := Lib.hid (CoD.held HD.out.drew)
          go_region_held3 (fun wq => wq.cell? ⟨g, 0, none⟩ = some (.slice (some ⟨h0, 0, none⟩) 6 c0) ∧ wq.cell? ⟨g, 1, none⟩ = some (.slice (some ⟨h1, 0, none⟩) 6 c1) ∧ wq.cell? ⟨g, 2, none⟩ = some (.slice (some ⟨h2, 0, none⟩) 36 c2)) (first | exact S0.out | exact CoD.held hd | exact CoD.held (CoD.put1 hd _ _) | exact CoD.held (CoD.alloc HD.out.drew _)) (first | (go_at_call 37; refine (l1Below_ex _ B k _ (CoD.cursor HD.out.drew)).mono ?_; rintro e w6 ⟨x, rfl, hvx, cv, gv⟩; have hd := CoD.cur HD.out.drew gv cv; obtain ⟨e1c, e1f⟩ := CoD.cell1 hd (j := i) (by omega)))
          have hd := CoD.put1 hd i (x : Int)
          have HD := Lib.hid hd
          clear hd S0 cv gv hvx e1c e1f
          go_wp2
          go_loopw [6] (fun jv wq => ∃ (j : Nat) (K0 K1 K2 : List Int), j ≤ 6 ∧ jv = .int .i64 j ∧ CoD w B w.heap.size g k h0 h1 h2 c0 c1 c2 K0 K1 K2 wq) (fun j _ => 6 - (intOf j).toNat)
          case atStart => exact ⟨0, _, _, _, Nat.zero_le _, rfl, HD.out⟩
          case round =>
            clear HD
            obtain ⟨j, M0, M1, M2, hj, rfl, hd⟩ := hrel
            have HD := Lib.hid hd
            clear hd
            by_cases hlj : j < 6
            · have q0 : decide ((j : Int) < 6) = true := by simp; omega
              have q1 : (0 : Int) ≤ (j : Int) := by omega
              by_cases hij : i = j
              · have q3 : ((i : Int) != (j : Int)) = false := by simp [hij]
                go_wp2
                go_roundw
                case rel => exact ⟨j + 1, M0, M1, M2, by omega, by go_num, HD.out⟩
                case measure => simp [intOf]; omega
              · have q3 : ((i : Int) != (j : Int)) = true := by simp; omega
                obtain ⟨q, hq⟩ : ∃ q, q = i * 6 := ⟨_, rfl⟩
                obtain ⟨p, hp⟩ : ∃ p, p = q + j := ⟨_, rfl⟩
                have m1 : IntKind.i64.wrap ((i : Int) * 6) = (i : Int) * 6 := Kit.w64 (by omega) (by omega)
                have m2 : IntKind.i64.wrap ((i : Int) * 6 + (j : Int)) = (p : Int) := by rw [Kit.w64 (by omega) (by omega)]; omega
                have p0 : (0 : Int) ≤ (p : Int) := by omega
                have p1 : (p : Int) < 36 := by omega
                have hp36 : p < 36 := by omega
                clear hp hq
                go_wp2_with fail
                have S0 := Lib.hid (CoD.held HD.out.drew)
                go_region_held3 (fun wq => wq.cell? ⟨g, 0, none⟩ = some (.slice (some ⟨h0, 0, none⟩) 6 c0) ∧ wq.cell? ⟨g, 1, none⟩ = some (.slice (some ⟨h1, 0, none⟩) 6 c1) ∧ wq.cell? ⟨g, 2, none⟩ = some (.slice (some ⟨h2, 0, none⟩) 36 c2)) (first | exact S0.out | exact CoD.held hd | exact CoD.held (CoD.put2 hd _ _) | exact CoD.held (CoD.alloc HD.out.drew _)) (first | (go_at_call 44; refine (l1PickInt_lit _ B k (CoD.cursor HD.out.drew) _ _ [0, 1, 4, 9, 1000] 5 rfl rfl (by decide) (by decide)).mono ?_; rintro e w7 ⟨y, rfl, cv, gv⟩; have hd := CoD.cur HD.out.drew gv cv; obtain ⟨e2c, e2f⟩ := CoD.cell2 hd (j := p) hp36))
                have hd := CoD.put2 hd p y
                go_wp2
                go_roundw
                case rel => exact ⟨j + 1, _, _, _, by omega, by go_num, hd⟩
                case measure => simp [intOf]; omega
            · obtain rfl : j = 6 := by omega
              have q0 : decide (((6 : Nat) : Int) < 6) = false := rfl
              go_wp2
              go_roundw
              case rel => exact ⟨i + 1, M0, M1, M2, by omega, by go_num, HD.out⟩
              case measure => simp [intOf]; omega
        · obtain rfl : i = 6 := by omega
          have k0 : decide (((6 : Nat) : Int) < 6) = false := rfl
          have hd := HD.out
          clear HD
          have E := Lib.hid fun u0 u1 u2 => CoD.done hd u0 u1 u2
          obtain ⟨⟨x0, x1, x2⟩, hf, ⟨y0, y1, y2⟩, _⟩ := hd
          have f0 := hf 0
          have f1 := hf 1
          have f2 := hf 2
          clear hf
          go_wp2
          (try simp only [Exit.inBlock, Exit.then])
          refine bodyPost_ret (v := .agg #[.slice (some ⟨h0, 0, none⟩) 6 c0, .slice (some ⟨h1, 0, none⟩) 6 c1, .slice (some ⟨h2, 0, none⟩) 36 c2]) ?_ rfl ?_
          · rw [results_cell1 rfl]
            go_simp
          · exact E.out _ _ _

end Go.Proofs.YtpdpkcadolcbmaaDoor

/- Contracts (PutM). -/
namespace Go.Proofs.YtpdpkcadolcbmaaDoor
open Go.RowKit
set_option linter.unusedVariables false

/-- the bytes of the first k numbers -/
def Zs.putTo (zs : List Int) : Nat → ByteArray
  | 0 => ⟨#[]⟩
  | k + 1 => Zs.putTo zs k ++ Num.varB (Zs.at zs k)
def Zs.put (zs : List Int) : ByteArray := Zs.putTo zs zs.length
theorem Zs.putTo_size (zs : List Int) (k : Nat) : (Zs.putTo zs k).size ≤ 7 * k := by
  induction k with
  | zero => exact Nat.le_refl 0
  | succ k ih =>
    have h1 := Num.varB_size (Zs.at zs k)
    simp only [Zs.putTo, ByteArray.size_append]
    omega
theorem Zs.put_size (zs : List Int) : (Zs.put zs).size ≤ 7 * zs.length := Zs.putTo_size _ _
theorem Zs.putTo_left (a b : List Int) (k : Nat) (h : k ≤ a.length) : Zs.putTo (a ++ b) k = Zs.putTo a k := by
  induction k with
  | zero => rfl
  | succ k ih =>
    have : Zs.at (a ++ b) k = Zs.at a k := by simp [Zs.at, List.getD_eq_getElem?_getD, List.getElem?_append, show k < a.length by omega]
    rw [Zs.putTo, Zs.putTo, ih (by omega), this]
theorem Zs.putTo_right (a b : List Int) (k : Nat) : Zs.putTo (a ++ b) (a.length + k) = Zs.put a ++ Zs.putTo b k := by
  induction k with
  | zero =>
    rw [Nat.add_zero, Zs.putTo_left a b _ (Nat.le_refl _)]
    show Zs.put a = Zs.put a ++ ByteArray.empty
    rw [ByteArray.append_empty]
  | succ k ih =>
    have : Zs.at (a ++ b) (a.length + k) = Zs.at b k := by simp only [Zs.at, List.getD_eq_getElem?_getD]; rw [List.getElem?_append_right (by omega), Nat.add_sub_cancel_left]
    rw [← Nat.add_assoc, Zs.putTo, Zs.putTo, ih, this, ByteArray.append_assoc]
theorem Zs.put_append (a b : List Int) : Zs.put (a ++ b) = Zs.put a ++ Zs.put b := by
  unfold Zs.put
  rw [List.length_append, Zs.putTo_right]
  rfl
theorem Zs.put_cons (a : Int) (l : List Int) : Zs.put (a :: l) = Num.varB a ++ Zs.put l := by
  have := Zs.put_append [a] l
  rw [List.singleton_append] at this
  rw [this]
  have e : Zs.put [a] = Num.varB a := by
    show (⟨#[]⟩ : ByteArray) ++ Num.varB (Zs.at [a] 0) = Num.varB a
    exact ByteArray.empty_append
  rw [e]
def Co.all (k : Co) : List Int := k.d ++ k.i ++ k.r
def Co.put (k : Co) : ByteArray := if Co.ok k then Zs.put k.d ++ Zs.put k.i ++ Zs.put k.r else ⟨#[]⟩
theorem Co.put_no {k : Co} (h : Co.ok k = false) : Co.put k = ⟨#[]⟩ := by unfold Co.put; rw [h]; rfl
theorem Co.put_yes {k : Co} (h : Co.ok k = true) : Co.put k = Zs.put k.d ++ Zs.put k.i ++ Zs.put k.r := by unfold Co.put; rw [h]; rfl
theorem Co.put_all {k : Co} (h : Co.ok k = true) : Co.put k = Zs.put (Co.all k) := by rw [Co.put_yes h, Co.all, Zs.put_append, Zs.put_append]
theorem Co.ok_len {k : Co} (h : Co.ok k = true) : k.d.length = 6 ∧ k.i.length = 6 ∧ k.r.length = 36 := ⟨(Zs.fit_iff.1 (Co.ok_iff.1 h).1).1, (Zs.fit_iff.1 (Co.ok_iff.1 h).2.1).1, (Zs.fit_iff.1 (Co.ok_iff.1 h).2.2.1).1⟩

end Go.Proofs.YtpdpkcadolcbmaaDoor

/- Contracts (TblI). -/
namespace Go.Proofs.YtpdpkcadolcbmaaDoor
open Go.RowKit
set_option linter.unusedVariables false

set_option maxHeartbeats 1600000 in
set_option maxRecDepth 100000 in
theorem tableOk_any (A : Option Addr) (n c : Nat) (zs : List Int) (m : Nat) (w : World) (h : IntIn w w.heap.size A n zs) (hn : n ≤ 1048576) (hm : m ≤ 1000) :
    Calls Tryd.prog 52 #[.slice A n c, .int .i64 m] w fun e w' => e = .returned (.bool (Zs.fit zs m)) ∧ w = w' := by
  have H := Lib.hid h
  have HL := Lib.hid h.1
  clear h
  by_cases hnm : n = m
  · subst hnm
    have q0 : ((n : Int) != (n : Int)) = false := by simp
    go_enter Tryd.func52, Tryd.ntmps52
    go_wp2
    go_loop [13] (fun iv => ∃ k : Nat, k ≤ n ∧ iv = .int .i64 k ∧ Zs.inTo zs k) (fun i => n - (intOf i).toNat)
    case atStart => exact ⟨0, Nat.zero_le _, rfl, fun j hj => absurd hj (Nat.not_lt_zero j)⟩
    case round =>
      obtain ⟨k, hk, rfl, hin⟩ := hrel
      have HI := Lib.hid hin
      clear hin
      by_cases hlt : k < n
      · obtain ⟨ad, rfl, _, c1⟩ := H.out.at_ hlt
        obtain ⟨z, hz⟩ : ∃ z, z = Zs.at zs k := ⟨_, rfl⟩
        rw [← hz] at c1
        have HZ := Lib.hid hz
        clear hz
        have k0 : (0 : Int) ≤ (k : Int) := by omega
        have k1 : (k : Int) < (n : Int) := by omega
        by_cases hq0 : z < 0
        · have q : decide (z < 0) = true := by simpa using hq0
          have Hf := Lib.hid (Zs.fit_not (zs := zs) (k := k) (n := n) (by rw [HL.out]; exact hlt) (by rw [← HZ.out]; omega))
          clear hq0
          go_wp2
          go_ret
          exact ⟨Kit.ret_bool Hf.out.symm, rfl⟩
        · by_cases hq1 : 1000 < z
          · have q : decide (z < 0) = false := by simpa using hq0
            have q' : decide (1000 < z) = true := by simpa using hq1
            have Hf := Lib.hid (Zs.fit_not (zs := zs) (k := k) (n := n) (by rw [HL.out]; exact hlt) (by rw [← HZ.out]; omega))
            clear hq0 hq1
            go_wp2
            go_ret
            exact ⟨Kit.ret_bool Hf.out.symm, rfl⟩
          · have q : decide (z < 0) = false := by simpa using hq0
            have q' : decide (1000 < z) = false := by simpa using hq1
            have Hq := Lib.hid (show 0 ≤ z ∧ z ≤ 1000 by omega)
            clear hq0 hq1
            go_wp2
            go_round
            case rel => exact ⟨k + 1, by omega, by go_num, fun j hj => by
              rcases Nat.lt_succ_iff_lt_or_eq.1 hj with h' | rfl
              · exact HI.out j h'
              · rw [← HZ.out]; exact Hq.out⟩
            case measure => simp [intOf]; omega
      · obtain rfl : k = n := by omega
        have Hf := Lib.hid (Zs.fit_all (zs := zs) (n := k) (by rw [HL.out]; exact HI.out))
        go_wp2
        go_ret
        exact ⟨Kit.ret_bool (by rw [Hf.out, HL.out]; simp), rfl⟩
  · have q0 : ((n : Int) != (m : Int)) = true := by simp; omega
    have Hf := Lib.hid (show Zs.fit zs m = false by rw [Bool.eq_false_iff]; intro e; have := (Zs.fit_iff.1 e).1; rw [HL.out] at this; exact hnm this)
    clear hnm
    go_enter Tryd.func52, Tryd.ntmps52
    go_wp2
    go_ret
    exact ⟨Kit.ret_bool Hf.out.symm, rfl⟩
set_option maxHeartbeats 400000 in
theorem relIndex_any (a b : Int) (w : World) (h0 : 0 ≤ a) (h1 : a < 1000) (h2 : 0 ≤ b) (h3 : b < 1000) :
    Calls Tryd.prog 53 #[.int .i64 a, .int .i64 b] w fun e w' => e = .returned (.int .i64 (a * 6 + b)) ∧ w = w' := by
  go_enter Tryd.func53, Tryd.ntmps53
  go_wp2
  go_ret
  exact ⟨rfl, rfl⟩

end Go.Proofs.YtpdpkcadolcbmaaDoor

/- Contracts (L7In). -/
namespace Go.Proofs.YtpdpkcadolcbmaaDoor
open Go.RowKit
set_option linter.unusedVariables false

set_option maxHeartbeats 1600000 in
set_option maxRecDepth 100000 in
theorem l7In_any (A : Option Addr) (n c : Nat) (zs : List Int) (m : Nat) (w : World) (h : IntIn w w.heap.size A n zs) (hn : n ≤ 1048576) (hm : m ≤ 1000) :
    Calls Tryd.prog 39 #[.slice A n c, .int .i64 m] w fun e w' => e = .returned (.bool (Zs.fit zs m)) ∧ w = w' := by
  have H := Lib.hid h
  have HL := Lib.hid h.1
  clear h
  go_enter Tryd.func39, Tryd.ntmps39
  go_wp2
  go_loop [5] (fun iv => ∃ k : Nat, k ≤ n ∧ iv = .int .i64 k ∧ Zs.inTo zs k) (fun i => n - (intOf i).toNat)
  case atStart => exact ⟨0, Nat.zero_le _, rfl, fun j hj => absurd hj (Nat.not_lt_zero j)⟩
  case round =>
    obtain ⟨k, hk, rfl, hin⟩ := hrel
    have HI := Lib.hid hin
    clear hin
    by_cases hlt : k < n
    · obtain ⟨ad, rfl, _, c1⟩ := H.out.at_ hlt
      obtain ⟨z, hz⟩ : ∃ z, z = Zs.at zs k := ⟨_, rfl⟩
      rw [← hz] at c1
      have HZ := Lib.hid hz
      clear hz
      have k0 : (0 : Int) ≤ (k : Int) := by omega
      have k1 : (k : Int) < (n : Int) := by omega
      by_cases hq : 0 ≤ z ∧ z ≤ 1000
      · have q : decide (0 ≤ z ∧ z ≤ 1000) = true := by simpa using hq
        have Hq := Lib.hid hq
        clear hq
        go_wp2_with fail
        refine (l1In_any _ _ _ _).mono ?_
        rintro e w1 ⟨rfl, rfl⟩
        rw [q]
        go_wp2
        go_round
        case rel => exact ⟨k + 1, by omega, by go_num, fun j hj => by
          rcases Nat.lt_succ_iff_lt_or_eq.1 hj with h' | rfl
          · exact HI.out j h'
          · rw [← HZ.out]; exact Hq.out⟩
        case measure => simp [intOf]; omega
      · have q : decide (0 ≤ z ∧ z ≤ 1000) = false := by simpa using hq
        have Hf := Lib.hid (Zs.fit_not (zs := zs) (k := k) (n := m) (by rw [HL.out]; exact hlt) (by rw [← HZ.out]; exact hq))
        clear hq
        go_wp2_with fail
        refine (l1In_any _ _ _ _).mono ?_
        rintro e w1 ⟨rfl, rfl⟩
        rw [q]
        go_wp2
        go_ret
        exact ⟨Kit.ret_bool Hf.out.symm, rfl⟩
    · obtain rfl : k = n := by omega
      have Hf := Lib.hid (Zs.fit_all (zs := zs) (n := m) (by rw [HL.out]; exact HI.out))
      go_wp2
      go_ret
      exact ⟨Kit.ret_bool (by rw [Hf.out, HL.out, Bool.eq_iff_iff]; simp; omega), rfl⟩

end Go.Proofs.YtpdpkcadolcbmaaDoor

/- Contracts (CostOkS). -/
namespace Go.Proofs.YtpdpkcadolcbmaaDoor
open Go.RowKit
set_option linter.unusedVariables false

theorem Co.diag_not {k : Co} {a : Nat} (ha : a < 6) (h : Zs.at k.r (a * 6 + a) ≠ 0) : Co.diag k = false := by
  rw [Bool.eq_false_iff]
  intro e
  simp only [Co.diag, List.all_eq_true, List.mem_range, decide_eq_true_eq] at e
  exact h (e a ha)
def Co.diagTo (k : Co) (a : Nat) : Prop := ∀ b, b < a → Zs.at k.r (b * 6 + b) = 0
theorem Co.diag_all {k : Co} (h : Co.diagTo k 6) : Co.diag k = true := by
  simp only [Co.diag, List.all_eq_true, List.mem_range, decide_eq_true_eq]
  exact h
set_option maxHeartbeats 1600000 in
set_option maxRecDepth 100000 in
theorem specCostOk_any (A0 A1 A2 : Option Addr) (n0 n1 n2 c0 c1 c2 : Nat) (k : Co) (w : World) (h : CoIn w w.heap.size A0 A1 A2 n0 n1 n2 k) (h0 : n0 ≤ 1048576) (h1 : n1 ≤ 1048576) (h2 : n2 ≤ 1048576) :
    Calls Tryd.prog 18 #[.agg #[.slice A0 n0 c0, .slice A1 n1 c1, .slice A2 n2 c2]] w fun e w' => e = .returned (.bool (Co.ok k)) ∧ Below w.heap.size w w' := by
  have H := Lib.hid h
  have HL := Lib.hid h.len
  clear h
  have HB := Lib.hid ((Below.refl w.heap.size w).alloc (Nat.le_refl _) (.cells #[.slice A0 n0 c0, .slice A1 n1 c1, .slice A2 n2 c2] 35))
  have H1 := Lib.hid (H.out.to_below HB.out)
  cases e0 : Zs.fit k.d 6 with
  | false =>
    have Hf := Lib.hid (show Co.ok k = false by unfold Co.ok; rw [e0]; rfl)
    have E0 := Lib.hid e0
    clear e0
    go_enter Tryd.func18, Tryd.ntmps18
    go_wp2_with fail
    refine (l7In_any _ _ _ k.d 6 _ H1.out.1 h0 (by decide)).mono ?_
    rintro e w1 ⟨rfl, rfl⟩
    rw [E0.out]
    go_wp2
    go_ret
    exact ⟨Kit.ret_bool Hf.out.symm, HB.out⟩
  | true =>
    cases e1 : Zs.fit k.i 6 with
    | false =>
      have Hf := Lib.hid (show Co.ok k = false by unfold Co.ok; rw [e0, e1]; rfl)
      have E0 := Lib.hid e0
      have E1 := Lib.hid e1
      clear e0 e1
      go_enter Tryd.func18, Tryd.ntmps18
      go_wp2_with fail
      refine (l7In_any _ _ _ k.d 6 _ H1.out.1 h0 (by decide)).mono ?_
      rintro e w1 ⟨rfl, rfl⟩
      rw [E0.out]
      go_wp2_with fail
      refine (l7In_any _ _ _ k.i 6 _ H1.out.2.1 h1 (by decide)).mono ?_
      rintro e w1 ⟨rfl, rfl⟩
      rw [E1.out]
      go_wp2
      go_ret
      exact ⟨Kit.ret_bool Hf.out.symm, HB.out⟩
    | true =>
      cases e2 : Zs.fit k.r 36 with
      | false =>
        have Hf := Lib.hid (show Co.ok k = false by unfold Co.ok; rw [e0, e1, e2]; rfl)
        have E0 := Lib.hid e0
        have E1 := Lib.hid e1
        have E2 := Lib.hid e2
        clear e0 e1 e2
        go_enter Tryd.func18, Tryd.ntmps18
        go_wp2_with fail
        refine (l7In_any _ _ _ k.d 6 _ H1.out.1 h0 (by decide)).mono ?_
        rintro e w1 ⟨rfl, rfl⟩
        rw [E0.out]
        go_wp2_with fail
        refine (l7In_any _ _ _ k.i 6 _ H1.out.2.1 h1 (by decide)).mono ?_
        rintro e w1 ⟨rfl, rfl⟩
        rw [E1.out]
        go_wp2_with fail
        refine (l7In_any _ _ _ k.r 36 _ H1.out.2.2 h2 (by decide)).mono ?_
        rintro e w1 ⟨rfl, rfl⟩
        rw [E2.out]
        go_wp2
        go_ret
        exact ⟨Kit.ret_bool Hf.out.symm, HB.out⟩
      | true =>
        have Hf := Lib.hid (show Co.ok k = Co.diag k by unfold Co.ok; rw [e0, e1, e2]; rfl)
        have hr := (Zs.fit_iff.1 e2).1
        have hn2 : n2 = 36 := by rw [← hr]; exact HL.out.2.2.symm
        have E0 := Lib.hid e0
        have E1 := Lib.hid e1
        have E2 := Lib.hid e2
        clear e0 e1 e2 hr
        subst hn2
        obtain ⟨ad, rfl, _⟩ := H1.out.2.2.2.1 (by omega)
        go_enter Tryd.func18, Tryd.ntmps18
        go_wp2_with fail
        refine (l7In_any _ _ _ k.d 6 _ H1.out.1 h0 (by decide)).mono ?_
        rintro e w1 ⟨rfl, rfl⟩
        rw [E0.out]
        go_wp2_with fail
        refine (l7In_any _ _ _ k.i 6 _ H1.out.2.1 h1 (by decide)).mono ?_
        rintro e w1 ⟨rfl, rfl⟩
        rw [E1.out]
        go_wp2_with fail
        refine (l7In_any _ _ _ k.r 36 _ H1.out.2.2 h2 (by decide)).mono ?_
        rintro e w1 ⟨rfl, rfl⟩
        rw [E2.out]
        go_wp2
        go_loop [3] (fun iv => ∃ a : Nat, a ≤ 6 ∧ iv = .int .i64 a ∧ Co.diagTo k a) (fun i => 6 - (intOf i).toNat)
        case atStart => exact ⟨0, Nat.zero_le _, rfl, fun j hj => absurd hj (Nat.not_lt_zero j)⟩
        case round =>
          obtain ⟨a, ha, rfl, hin⟩ := hrel
          have HI := Lib.hid hin
          clear hin
          by_cases hlt : a < 6
          · have c1 := H1.out.2.2.here (k := a * 6 + a) (by omega)
            obtain ⟨z, hz⟩ : ∃ z, z = Zs.at k.r (a * 6 + a) := ⟨_, rfl⟩
            rw [← hz] at c1
            have HZ := Lib.hid hz
            clear hz
            obtain ⟨p, hp⟩ : ∃ p, p = a * 6 + a := ⟨_, rfl⟩
            rw [← hp] at c1
            have k0 : decide ((a : Int) < 6) = true := by simp; omega
            have a1 : IntKind.i64.wrap ((a : Int) * 6) = (a : Int) * 6 := Kit.w64 (by omega) (by omega)
            have a2 : IntKind.i64.wrap ((a : Int) * 6 + (a : Int)) = (p : Int) := by rw [Kit.w64 (by omega) (by omega)]; omega
            have a3 : (a : Int) * 6 + (a : Int) = (p : Int) := by omega
            have k1 : (0 : Int) ≤ (p : Int) := by omega
            have k2 : (p : Int) < 36 := by omega
            have HP := Lib.hid hp
            clear hp
            by_cases hq : z = 0
            · have q : (z != 0) = false := by simpa using hq
              have Hq := Lib.hid hq
              clear hq
              go_wp2
              refine ⟨⟨a + 1, by omega, by go_num, fun j hj => ?_⟩, by simp [intOf]; omega⟩
              rcases Nat.lt_succ_iff_lt_or_eq.1 hj with h' | rfl
              · exact HI.out j h'
              · rw [← HZ.out]; exact Hq.out
            · have q : (z != 0) = true := by simpa using hq
              have Hd := Lib.hid (Co.diag_not (k := k) hlt (by rw [← HZ.out]; exact hq))
              clear hq
              go_wp2
              go_ret
              exact ⟨Kit.ret_bool (by rw [Hf.out, Hd.out]), HB.out⟩
          · obtain rfl : a = 6 := by omega
            have Hd := Lib.hid (Co.diag_all HI.out)
            go_wp2
            go_ret
            exact ⟨Kit.ret_bool (by rw [Hf.out, Hd.out]), HB.out⟩

end Go.Proofs.YtpdpkcadolcbmaaDoor

/- Contracts (CostOkI). -/
namespace Go.Proofs.YtpdpkcadolcbmaaDoor
open Go.RowKit
set_option linter.unusedVariables false

set_option maxHeartbeats 1600000 in
set_option maxRecDepth 100000 in
theorem implCostOk_any (A0 A1 A2 : Option Addr) (n0 n1 n2 c0 c1 c2 : Nat) (k : Co) (w : World) (h : CoIn w w.heap.size A0 A1 A2 n0 n1 n2 k) (h0 : n0 ≤ 1048576) (h1 : n1 ≤ 1048576) (h2 : n2 ≤ 1048576) :
    Calls Tryd.prog 33 #[.agg #[.slice A0 n0 c0, .slice A1 n1 c1, .slice A2 n2 c2]] w fun e w' => e = .returned (.bool (Co.ok k)) ∧ Below w.heap.size w w' := by
  have H := Lib.hid h
  have HL := Lib.hid h.len
  clear h
  have HB := Lib.hid ((Below.refl w.heap.size w).alloc (Nat.le_refl _) (.cells #[.slice A0 n0 c0, .slice A1 n1 c1, .slice A2 n2 c2] 35))
  have H1 := Lib.hid (H.out.to_below HB.out)
  cases e0 : Zs.fit k.d 6 with
  | false =>
    have Hf := Lib.hid (show Co.ok k = false by unfold Co.ok; rw [e0]; rfl)
    have E0 := Lib.hid e0
    clear e0
    go_enter Tryd.func33, Tryd.ntmps33
    go_wp2_with fail
    refine (tableOk_any _ _ _ k.d 6 _ H1.out.1 h0 (by decide)).mono ?_
    rintro e w1 ⟨rfl, rfl⟩
    rw [E0.out]
    go_wp2
    go_ret
    exact ⟨Kit.ret_bool Hf.out.symm, HB.out⟩
  | true =>
    cases e1 : Zs.fit k.i 6 with
    | false =>
      have Hf := Lib.hid (show Co.ok k = false by unfold Co.ok; rw [e0, e1]; rfl)
      have E0 := Lib.hid e0
      have E1 := Lib.hid e1
      clear e0 e1
      go_enter Tryd.func33, Tryd.ntmps33
      go_wp2_with fail
      refine (tableOk_any _ _ _ k.d 6 _ H1.out.1 h0 (by decide)).mono ?_
      rintro e w1 ⟨rfl, rfl⟩
      rw [E0.out]
      go_wp2_with fail
      refine (tableOk_any _ _ _ k.i 6 _ H1.out.2.1 h1 (by decide)).mono ?_
      rintro e w1 ⟨rfl, rfl⟩
      rw [E1.out]
      go_wp2
      go_ret
      exact ⟨Kit.ret_bool Hf.out.symm, HB.out⟩
    | true =>
      cases e2 : Zs.fit k.r 36 with
      | false =>
        have Hf := Lib.hid (show Co.ok k = false by unfold Co.ok; rw [e0, e1, e2]; rfl)
        have E0 := Lib.hid e0
        have E1 := Lib.hid e1
        have E2 := Lib.hid e2
        clear e0 e1 e2
        go_enter Tryd.func33, Tryd.ntmps33
        go_wp2_with fail
        refine (tableOk_any _ _ _ k.d 6 _ H1.out.1 h0 (by decide)).mono ?_
        rintro e w1 ⟨rfl, rfl⟩
        rw [E0.out]
        go_wp2_with fail
        refine (tableOk_any _ _ _ k.i 6 _ H1.out.2.1 h1 (by decide)).mono ?_
        rintro e w1 ⟨rfl, rfl⟩
        rw [E1.out]
        go_wp2_with fail
        refine (tableOk_any _ _ _ k.r 36 _ H1.out.2.2 h2 (by decide)).mono ?_
        rintro e w1 ⟨rfl, rfl⟩
        rw [E2.out]
        go_wp2
        go_ret
        exact ⟨Kit.ret_bool Hf.out.symm, HB.out⟩
      | true =>
        have Hf := Lib.hid (show Co.ok k = Co.diag k by unfold Co.ok; rw [e0, e1, e2]; rfl)
        have hr := (Zs.fit_iff.1 e2).1
        have hn2 : n2 = 36 := by rw [← hr]; exact HL.out.2.2.symm
        have E0 := Lib.hid e0
        have E1 := Lib.hid e1
        have E2 := Lib.hid e2
        clear e0 e1 e2 hr
        subst hn2
        obtain ⟨ad, rfl, _⟩ := H1.out.2.2.2.1 (by omega)
        go_enter Tryd.func33, Tryd.ntmps33
        go_wp2_with fail
        refine (tableOk_any _ _ _ k.d 6 _ H1.out.1 h0 (by decide)).mono ?_
        rintro e w1 ⟨rfl, rfl⟩
        rw [E0.out]
        go_wp2_with fail
        refine (tableOk_any _ _ _ k.i 6 _ H1.out.2.1 h1 (by decide)).mono ?_
        rintro e w1 ⟨rfl, rfl⟩
        rw [E1.out]
        go_wp2_with fail
        refine (tableOk_any _ _ _ k.r 36 _ H1.out.2.2 h2 (by decide)).mono ?_
        rintro e w1 ⟨rfl, rfl⟩
        rw [E2.out]
        have HX := Lib.hid (Box3.made w (.slice A0 n0 c0) (.slice A1 n1 c1) (.slice (some ad) 36 c2) 35)
        obtain ⟨wz, hwz⟩ : ∃ wz, wz = w.alloc (.cells #[.slice A0 n0 c0, .slice A1 n1 c1, .slice (some ad) 36 c2] 35) := ⟨_, rfl⟩
        rw [← hwz] at HX HB H1
        go_wp2
        rw [← hwz]
        clear hwz
        go_loopw [20] (fun iv wr => ∃ a : Nat, a ≤ 6 ∧ iv = .int .i64 a ∧ Co.diagTo k a ∧ Drawn wz wr) (fun i _ => 6 - (intOf i).toNat)
        case atStart => exact ⟨0, Nat.zero_le _, rfl, fun j hj => absurd hj (Nat.not_lt_zero j), Drawn.refl _⟩
        case round =>
          obtain ⟨a, ha, rfl, hin, hD⟩ := hrel
          have HI := Lib.hid hin
          have HD := Lib.hid hD
          clear hin hD
          by_cases hlt : a < 6
          · have c1 := (H1.out.drawn HD.out).2.2.here (k := a * 6 + a) (by omega)
            obtain ⟨z, hz⟩ : ∃ z, z = Zs.at k.r (a * 6 + a) := ⟨_, rfl⟩
            rw [← hz] at c1
            have HZ := Lib.hid hz
            clear hz
            obtain ⟨p, hp⟩ : ∃ p, p = a * 6 + a := ⟨_, rfl⟩
            rw [← hp] at c1
            have k0 : decide ((a : Int) < 6) = true := by simp; omega
            have x0 := (HX.out.drawn HD.out).2.2
            have HA3 := Lib.hid (show (a : Int) * 6 + (a : Int) = (p : Int) by omega)
            have k1 : (0 : Int) ≤ (p : Int) := by omega
            have k2 : (p : Int) < 36 := by omega
            have HP := Lib.hid hp
            clear hp
            by_cases hq : z = 0
            · have q : (z != 0) = false := by simpa using hq
              have Hq := Lib.hid hq
              clear hq
              go_wp2_with fail
              go_quiet (first | (go_at_call 53; exact quiet_same ((relIndex_any _ _ _ (by omega) (by omega) (by omega) (by omega)).mono fun e w' ⟨h1, h2⟩ => ⟨by rw [h1, HA3.out], h2⟩)))
              go_wp2
              go_roundw
              case rel =>
                refine ⟨a + 1, by omega, by go_num, fun j hj => ?_, HD.out.drewN _⟩
                rcases Nat.lt_succ_iff_lt_or_eq.1 hj with h' | rfl
                · exact HI.out j h'
                · rw [← HZ.out]; exact Hq.out
              case measure => simp [intOf]; omega
            · have q : (z != 0) = true := by simpa using hq
              have Hd := Lib.hid (Co.diag_not (k := k) hlt (by rw [← HZ.out]; exact hq))
              clear hq
              go_wp2_with fail
              go_quiet (first | (go_at_call 53; exact quiet_same ((relIndex_any _ _ _ (by omega) (by omega) (by omega) (by omega)).mono fun e w' ⟨h1, h2⟩ => ⟨by rw [h1, HA3.out], h2⟩)))
              go_wp2
              go_ret
              exact ⟨Kit.ret_bool (by rw [Hf.out, Hd.out]), HB.out.trans ((HD.out.drewN _).toBelow)⟩
          · obtain rfl : a = 6 := by omega
            have Hd := Lib.hid (Co.diag_all HI.out)
            go_wp2
            go_ret
            exact ⟨Kit.ret_bool (by rw [Hf.out, Hd.out]), HB.out.trans HD.out.toBelow⟩

end Go.Proofs.YtpdpkcadolcbmaaDoor

/- Contracts (PutCI). -/
namespace Go.Proofs.YtpdpkcadolcbmaaDoor
open Go.RowKit
set_option linter.unusedVariables false

set_option maxHeartbeats 1600000 in
set_option maxRecDepth 100000 in
theorem putTable_any (A : Option Addr) (n c : Nat) (zs : List Int) (w : World) (h : IntIn w w.heap.size A n zs) (hn : n ≤ 1048576) :
    Calls Tryd.prog 34 #[.slice A n c] w fun e w' => e = .returned (.string (Zs.put zs)) ∧ Below w.heap.size w w' := by
  have H := Lib.hid h
  have HL := Lib.hid h.1
  clear h
  go_enter Tryd.func34, Tryd.ntmps34
  go_wp2
  go_loopw [8, 3] (fun iv sv wr => ∃ k : Nat, k ≤ n ∧ iv = .int .i64 k ∧ sv = .string (Zs.putTo zs k) ∧ Below w.heap.size w wr) (fun i _ _ => n - (intOf i).toNat)
  case atStart => exact ⟨0, Nat.zero_le _, rfl, rfl, Below.refl _ _⟩
  case round =>
    obtain ⟨k, hk, rfl, rfl, hB⟩ := hrel
    have HB := Lib.hid hB
    clear hB
    by_cases hlt : k < n
    · obtain ⟨ad, rfl, _, c1⟩ := (H.out.below HB.out).at_ hlt
      have z1 := Zs.putTo_size zs k
      have z2 := Num.varB_size (Zs.at zs k)
      have y1 : ¬ 9223372036854775807 < (Zs.putTo zs k).size + (Num.varB (Zs.at zs k)).size := by omega
      have Hs := Lib.hid (show Zs.putTo zs (k + 1) = Zs.putTo zs k ++ Num.varB (Zs.at zs k) from rfl)
      have k0 : (0 : Int) ≤ (k : Int) := by omega
      have k1 : (k : Int) < (n : Int) := by omega
      clear z1 z2
      go_wp2_with fail
      refine (implVarB_any _ _).mono ?_
      rintro e w2 ⟨rfl, hb⟩
      have HB := Lib.hid (HB.out.trans (hb.mono HB.out.size))
      clear hb
      go_wp2
      go_roundw
      case rel => exact ⟨k + 1, by omega, by go_num, by rw [Hs.out], HB.out⟩
      case measure => simp [intOf]; omega
    · obtain rfl : k = n := by omega
      go_wp2
      go_ret
      exact ⟨by rw [← HL.out]; rfl, HB.out⟩
/-- a variable of three cells stands as it did; the world has only grown -/
def TriG (w0 : World) (s : Nat) (wq : World) : Prop := Below w0.heap.size w0 wq ∧ s < w0.heap.size
theorem tri_keep {w0 wx wq : World} {s : Nat} {a0 a1 a2 : Option Value} (hS : wx.cell? ⟨s, 0, none⟩ = a0 ∧ wx.cell? ⟨s, 1, none⟩ = a1 ∧ wx.cell? ⟨s, 2, none⟩ = a2 ∧ TriG w0 s wx)
    (hb : Below wx.heap.size wx wq) : wq.cell? ⟨s, 0, none⟩ = a0 ∧ wq.cell? ⟨s, 1, none⟩ = a1 ∧ wq.cell? ⟨s, 2, none⟩ = a2 ∧ TriG w0 s wq := by
  obtain ⟨h0, h1, h2, hB, hs⟩ := hS
  have hz := hB.size
  have c (o : Nat) : wq.cell? ⟨s, o, none⟩ = wx.cell? ⟨s, o, none⟩ := hb.cell (p := ⟨s, o, none⟩) (by simp only; omega)
  exact ⟨by rw [c 0, h0], by rw [c 1, h1], by rw [c 2, h2], hB.trans (hb.mono hz), hs⟩
theorem tri_below {w0 wx : World} {s : Nat} {a0 a1 a2 : Option Value} (hS : wx.cell? ⟨s, 0, none⟩ = a0 ∧ wx.cell? ⟨s, 1, none⟩ = a1 ∧ wx.cell? ⟨s, 2, none⟩ = a2 ∧ TriG w0 s wx) : Below w0.heap.size w0 wx := hS.2.2.2.1
set_option maxHeartbeats 1600000 in
set_option maxRecDepth 100000 in
theorem implPutCost_any (A0 A1 A2 : Option Addr) (n0 n1 n2 c0 c1 c2 : Nat) (k : Co) (w : World) (h : CoIn w w.heap.size A0 A1 A2 n0 n1 n2 k) (h0 : n0 ≤ 1048576) (h1 : n1 ≤ 1048576) (h2 : n2 ≤ 1048576) :
    Calls Tryd.prog 15 #[.agg #[.slice A0 n0 c0, .slice A1 n1 c1, .slice A2 n2 c2]] w fun e w' => e = .returned (.string (Co.put k)) ∧ Below w.heap.size w w' := by
  have H := Lib.hid h
  clear h
  have HB := Lib.hid ((Below.refl w.heap.size w).alloc (Nat.le_refl _) (.cells #[.slice A0 n0 c0, .slice A1 n1 c1, .slice A2 n2 c2] 35))
  have H1 := Lib.hid (H.out.to_below HB.out)
  cases e0 : Co.ok k with
  | false =>
    have Hf := Lib.hid (Co.put_no e0)
    have E0 := Lib.hid e0
    clear e0
    go_enter Tryd.func15, Tryd.ntmps15
    go_wp2_with fail
    refine (implCostOk_any _ _ _ _ _ _ _ _ _ k _ H1.out h0 h1 h2).mono ?_
    rintro e w1 ⟨rfl, hb⟩
    have HB := Lib.hid (HB.out.trans (hb.mono HB.out.size))
    clear hb
    rw [E0.out]
    go_wp2
    go_ret
    exact ⟨by rw [Hf.out]; rfl, HB.out⟩
  | true =>
    have Hf := Lib.hid (Co.put_yes e0)
    have E0 := Lib.hid e0
    have HX := Lib.hid (Box3.made w (.slice A0 n0 c0) (.slice A1 n1 c1) (.slice A2 n2 c2) 35)
    have HLT := Lib.hid (show w.heap.size < (w.alloc (.cells #[.slice A0 n0 c0, .slice A1 n1 c1, .slice A2 n2 c2] 35)).heap.size by simp)
    have HLN := Lib.hid (Co.ok_len e0)
    clear e0
    go_enter Tryd.func15, Tryd.ntmps15
    go_wp2_with fail
    refine (implCostOk_any _ _ _ _ _ _ _ _ _ k _ H1.out h0 h1 h2).mono ?_
    rintro e w1 ⟨rfl, hb⟩
    have HB := Lib.hid (HB.out.trans (hb.mono HB.out.size))
    have H1 := Lib.hid (H1.out.to_below hb)
    obtain ⟨g0, g1, g2⟩ := HX.out.below hb HLT.out
    have HLT := Lib.hid (Nat.lt_of_lt_of_le HLT.out hb.size)
    clear hb
    rw [E0.out]
    obtain ⟨s0, es0⟩ : ∃ s, s = Zs.put k.d := ⟨_, rfl⟩
    obtain ⟨s1, es1⟩ : ∃ s, s = Zs.put k.i := ⟨_, rfl⟩
    obtain ⟨s2, es2⟩ : ∃ s, s = Zs.put k.r := ⟨_, rfl⟩
    have z0 := Zs.put_size k.d
    have z1 := Zs.put_size k.i
    have z2 := Zs.put_size k.r
    rw [← es0, HLN.out.1] at z0
    rw [← es1, HLN.out.2.1] at z1
    rw [← es2, HLN.out.2.2] at z2
    have y1 : ¬ 9223372036854775807 < s0.size + s1.size := by omega
    have y2 : ¬ 9223372036854775807 < s0.size + s1.size + s2.size := by omega
    have HE := Lib.hid (And.intro es0 (And.intro es1 es2))
    clear z0 z1 z2 es0 es1 es2
    go_wp2_with fail
    have S0 := Lib.hid (show w1.drew.cell? ⟨w.heap.size, 0, none⟩ = some (.slice A0 n0 c0) ∧ w1.drew.cell? ⟨w.heap.size, 1, none⟩ = some (.slice A1 n1 c1) ∧ w1.drew.cell? ⟨w.heap.size, 2, none⟩ = some (.slice A2 n2 c2) ∧ TriG w1 w.heap.size w1.drew from ⟨g0, g1, g2, (Below.refl _ _).drew, HLT.out⟩)
    clear g0 g1 g2
    go_region_held3 (fun wq => wq.cell? ⟨w.heap.size, 0, none⟩ = some (.slice A0 n0 c0) ∧ wq.cell? ⟨w.heap.size, 1, none⟩ = some (.slice A1 n1 c1) ∧ wq.cell? ⟨w.heap.size, 2, none⟩ = some (.slice A2 n2 c2) ∧ TriG w1 w.heap.size wq) (first | exact S0.out | (refine tri_keep ?_ hb; assumption)) (first | (go_at_call 34; (fail_if_success (have := hp0)); refine (putTable_any _ _ _ k.d _ ((H1.out.to_below (tri_below (by assumption))).1) h0).mono ?_; rintro e w2 ⟨rfl, hb⟩; have hp0 := True.intro; rw [← HE.out.1]) | (go_at_call 34; (fail_if_success (have := hp1)); have := hp0; refine (putTable_any _ _ _ k.i _ ((H1.out.to_below (tri_below (by assumption))).2.1) h1).mono ?_; rintro e w3 ⟨rfl, hb⟩; have hp1 := True.intro; rw [← HE.out.2.1]) | (go_at_call 34; (fail_if_success (have := hp2)); have := hp0; have := hp1; refine (putTable_any _ _ _ k.r _ ((H1.out.to_below (tri_below (by assumption))).2.2) h2).mono ?_; rintro e w4 ⟨rfl, hb⟩; have hp2 := True.intro; rw [← HE.out.2.2]))
    have HG := Lib.hid (show TriG w1 w.heap.size w4 by (first | (rename_i q; exact q.2.2.2) | (rename_i q _; exact q.2.2.2)))
    go_wp2
    go_ret
    exact ⟨by rw [Hf.out, HE.out.1, HE.out.2.1, HE.out.2.2]; rfl, HB.out.trans (HG.out.1.mono HB.out.size)⟩

end Go.Proofs.YtpdpkcadolcbmaaDoor

/- Contracts (TriB). -/
namespace Go.Proofs.YtpdpkcadolcbmaaDoor
open Go.RowKit
set_option linter.unusedVariables false

/-- a variable of three cells below B stands as it did; so does all below B -/
def TriB (B : Nat) (w0 : World) (s : Nat) (wq : World) : Prop := Below B w0 wq ∧ s < B ∧ B ≤ w0.heap.size
theorem triB_keep {B : Nat} {w0 wx wq : World} {s : Nat} {a0 a1 a2 : Option Value} (hS : wx.cell? ⟨s, 0, none⟩ = a0 ∧ wx.cell? ⟨s, 1, none⟩ = a1 ∧ wx.cell? ⟨s, 2, none⟩ = a2 ∧ TriB B w0 s wx)
    (hb : Below B wx wq) : wq.cell? ⟨s, 0, none⟩ = a0 ∧ wq.cell? ⟨s, 1, none⟩ = a1 ∧ wq.cell? ⟨s, 2, none⟩ = a2 ∧ TriB B w0 s wq := by
  obtain ⟨h0, h1, h2, hB, hs, hz⟩ := hS
  have c (o : Nat) : wq.cell? ⟨s, o, none⟩ = wx.cell? ⟨s, o, none⟩ := hb.cell (p := ⟨s, o, none⟩) hs
  exact ⟨by rw [c 0, h0], by rw [c 1, h1], by rw [c 2, h2], hB.trans hb, hs, hz⟩
theorem triB_alloc {B : Nat} {w0 wx : World} {s : Nat} {a0 a1 a2 : Option Value} (hS : wx.cell? ⟨s, 0, none⟩ = a0 ∧ wx.cell? ⟨s, 1, none⟩ = a1 ∧ wx.cell? ⟨s, 2, none⟩ = a2 ∧ TriB B w0 s wx) (o : Obj) :
    (wx.alloc o).cell? ⟨s, 0, none⟩ = a0 ∧ (wx.alloc o).cell? ⟨s, 1, none⟩ = a1 ∧ (wx.alloc o).cell? ⟨s, 2, none⟩ = a2 ∧ TriB B w0 s (wx.alloc o) :=
  triB_keep hS ((Below.refl _ _).alloc (Nat.le_trans hS.2.2.2.2.2 hS.2.2.2.1.size) o)
theorem triB_below {B : Nat} {w0 wx : World} {s : Nat} {a0 a1 a2 : Option Value} (hS : wx.cell? ⟨s, 0, none⟩ = a0 ∧ wx.cell? ⟨s, 1, none⟩ = a1 ∧ wx.cell? ⟨s, 2, none⟩ = a2 ∧ TriB B w0 s wx) : Below B w0 wx := hS.2.2.2.1
theorem triB_size {B : Nat} {w0 wx : World} {s : Nat} {a0 a1 a2 : Option Value} (hS : wx.cell? ⟨s, 0, none⟩ = a0 ∧ wx.cell? ⟨s, 1, none⟩ = a1 ∧ wx.cell? ⟨s, 2, none⟩ = a2 ∧ TriB B w0 s wx) : B ≤ wx.heap.size := Nat.le_trans hS.2.2.2.2.2 hS.2.2.2.1.size

end Go.Proofs.YtpdpkcadolcbmaaDoor

/- Contracts (StepA). -/
namespace Go.Proofs.YtpdpkcadolcbmaaDoor
open Go.RowKit
set_option linter.unusedVariables false

/-- out = append(out, x...) as one step of a region that draws: a row of ints of the call's own, another that reads as ints -/
theorem step_append_ints {P : Program} {ops : Array Oper} {o : Oper} {a : Act} (w : World) {K : Act → World → Prop} {Q : Exit → Act → World → Prop} {E : Prop} (hgd : o.guard = none) (s x : Operand) (t : TypeId)
    (ho : o.op = .call { callee := .builtin .append, args := #[s, x], argTypes := #[t, t] })
    (base : Nat) (e : TypeId) (i : TypeInfo) (ht : P.underlying t = some (.slice e)) (hi : P.info? e = some i) (hz : i.zero = some (.int .i64 0))
    (hsize : i.size = 1) (hby : i.bytes = 8) (v : Value) (n m N : Nat) (l zs : List Int) (hs : a.eval s = v) (hown : w.ownsRow base e 1 v n (ints l))
    {B : Nat} (A : Option Addr) (c : Nat) (hx : a.eval x = .slice A m c) (hin : IntIn w B A m zs) (hpos : 0 < m) (hN : n + m = N)
    (h63 : N ≤ 1073741824) (hbase : base ≤ w.heap.size)
    (h : ∀ v' w', w'.ownsRow base e 1 v' N (ints (l ++ zs)) → w.grownBy w' v.ownBlock → K (a.put o.dst v') w') :
    if Region.wanted o (yielded ops a.tmps) = true then Oper.wp P o a w K Q else E := by
  have hw : Region.wanted o (yielded ops a.tmps) = true := by simp [Region.wanted, hgd]
  rw [if_pos hw]
  subst hN
  obtain ⟨ad, rfl, _⟩ := hin.2.1 hpos
  refine wp_append_own _ s x t ho base e i (.int .i64 0) 1 8 ht hi hz hsize hby rfl (by decide) v n (ints l) hs hown ad m c (ints zs) hx (by rw [ints_length, hin.1, Nat.mul_one]) hin.cells_at (ints_cell _) (by unfold maxLen; omega) (by omega) hbase ?_
  intro v' w' h2 h3 _
  refine h v' w' ?_ h3
  rw [ints_append]
  exact h2
/-- a write into a row of one's own leaves what lies below the base -/
theorem below_of_own {w w' : World} {base n size : Nat} {e : TypeId} {v : Value} {ys : List Value} (h : w.ownsRow base e size v n ys) (hg : w.grownBy w' v.ownBlock) (hb : base ≤ w.heap.size) : Below base w w' :=
  (Below.refl _ w).grown hg hb (fun k hk => (h.lt k hk).1)

end Go.Proofs.YtpdpkcadolcbmaaDoor

/- Contracts (PutCS). -/
namespace Go.Proofs.YtpdpkcadolcbmaaDoor
open Go.RowKit
set_option linter.unusedVariables false

theorem info_intP : (Tryd.prog.info? 3).map (fun i => (i.zero, i.size, i.bytes)) = some (some (.int .i64 0), 1, 8) := by kernel_rfl
set_option maxHeartbeats 1600000 in
set_option maxRecDepth 100000 in
theorem specPutCost_any (A0 A1 A2 : Option Addr) (n0 n1 n2 c0 c1 c2 : Nat) (k : Co) (w : World) (h : CoIn w w.heap.size A0 A1 A2 n0 n1 n2 k) (h0 : n0 ≤ 1048576) (h1 : n1 ≤ 1048576) (h2 : n2 ≤ 1048576) :
    Calls Tryd.prog 35 #[.agg #[.slice A0 n0 c0, .slice A1 n1 c1, .slice A2 n2 c2]] w fun e w' => e = .returned (.string (Co.put k)) ∧ Below w.heap.size w w' := by
  have H := Lib.hid h
  have HLE := Lib.hid h.len
  clear h
  cases e0 : Co.ok k with
  | false =>
    have HB := Lib.hid ((Below.refl w.heap.size w).alloc (Nat.le_refl _) (.cells #[.slice A0 n0 c0, .slice A1 n1 c1, .slice A2 n2 c2] 35))
    have H1 := Lib.hid (H.out.to_below HB.out)
    have Hf := Lib.hid (Co.put_no e0)
    have E0 := Lib.hid e0
    clear e0
    go_enter Tryd.func35, Tryd.ntmps35
    go_wp2_with fail
    refine (specCostOk_any _ _ _ _ _ _ _ _ _ k _ H1.out h0 h1 h2).mono ?_
    rintro e w1 ⟨rfl, hb⟩
    have HB := Lib.hid (HB.out.trans (hb.mono HB.out.size))
    clear hb
    rw [E0.out]
    go_wp2
    go_ret
    exact ⟨by rw [Hf.out]; rfl, HB.out⟩
  | true =>
    have Hf := Lib.hid (Co.put_all e0)
    have hln := Co.ok_len e0
    obtain rfl : n0 = 6 := by rw [← hln.1]; exact HLE.out.1.symm
    obtain rfl : n1 = 6 := by rw [← hln.2.1]; exact HLE.out.2.1.symm
    obtain rfl : n2 = 36 := by rw [← hln.2.2]; exact HLE.out.2.2.symm
    have HLN := Lib.hid hln
    have E0 := Lib.hid e0
    have HB := Lib.hid ((Below.refl w.heap.size w).alloc (Nat.le_refl _) (.cells #[.slice A0 6 c0, .slice A1 6 c1, .slice A2 36 c2] 35))
    have H1 := Lib.hid (H.out.to_below HB.out)
    have HX := Lib.hid (Box3.made w (.slice A0 6 c0) (.slice A1 6 c1) (.slice A2 36 c2) 35)
    have HLT := Lib.hid (show w.heap.size < (w.alloc (.cells #[.slice A0 6 c0, .slice A1 6 c1, .slice A2 36 c2] 35)).heap.size by simp)
    obtain ⟨i0, hi, hz0, hz1, hz2⟩ := info_parts info_intP
    have Hi := Lib.hid hi
    clear e0 hi hln
    go_enter Tryd.func35, Tryd.ntmps35
    go_wp2_with fail
    refine (specCostOk_any _ _ _ _ _ _ _ _ _ k _ H1.out h0 h1 h2).mono ?_
    rintro e w1 ⟨rfl, hb⟩
    have HB := Lib.hid (HB.out.trans (hb.mono HB.out.size))
    have H1 := Lib.hid (H1.out.to_below hb)
    obtain ⟨g0, g1, g2⟩ := HX.out.below hb HLT.out
    have HLT := Lib.hid (Nat.lt_of_lt_of_le HLT.out hb.size)
    clear hb
    rw [E0.out]
    go_wp2_with fail
    have S0 := Lib.hid (show w1.drew.cell? ⟨w.heap.size, 0, none⟩ = some (.slice A0 6 c0) ∧ w1.drew.cell? ⟨w.heap.size, 1, none⟩ = some (.slice A1 6 c1) ∧ w1.drew.cell? ⟨w.heap.size, 2, none⟩ = some (.slice A2 36 c2) ∧ TriB w1.heap.size w1 w.heap.size w1.drew from ⟨g0, g1, g2, (Below.refl _ _).drew, HLT.out, Nat.le_refl _⟩)
    clear g0 g1 g2
    go_region_held3 (fun wq => wq.cell? ⟨w.heap.size, 0, none⟩ = some (.slice A0 6 c0) ∧ wq.cell? ⟨w.heap.size, 1, none⟩ = some (.slice A1 6 c1) ∧ wq.cell? ⟨w.heap.size, 2, none⟩ = some (.slice A2 36 c2) ∧ TriB w1.heap.size w1 w.heap.size wq) (first | exact S0.out | exact triB_alloc S0.out _ | (refine triB_keep ?_ hb; assumption)) (first | ((fail_if_success (have := o1)); refine step_append_ints _ rfl _ _ 33 rfl w1.heap.size 3 i0 Tryd.underlying33 Hi.out hz0 hz1 hz2 _ 0 6 6 [] k.d rfl (World.ownsRow_lit (base := w1.heap.size) (e := 3) (size := 1) w1.drew #[] 0 (Nat.le_refl _) (Nat.zero_le _) rfl) A0 c0 rfl ((H1.out.below (triB_below (by assumption))).1) (by decide) rfl (by decide) (triB_size (by assumption)) ?_; intro v1 w2 o1 hg; have hb := below_of_own (World.ownsRow_lit (base := w1.heap.size) (e := 3) (size := 1) w1.drew #[] 0 (Nat.le_refl _) (Nat.zero_le _) rfl) hg (triB_size (by assumption)); obtain ⟨B1, d1, rfl⟩ := own_slice o1; clear hg) | ((fail_if_success (have := o2)); have := o1; refine step_append_ints _ rfl _ _ 33 rfl w1.heap.size 3 i0 Tryd.underlying33 Hi.out hz0 hz1 hz2 _ 6 6 12 ([] ++ k.d) k.i rfl o1 A1 c1 rfl ((H1.out.below (triB_below (by assumption))).2.1) (by decide) rfl (by decide) (triB_size (by assumption)) ?_; intro v2 w3 o2 hg; have hb := below_of_own o1 hg (triB_size (by assumption)); obtain ⟨B2, d2, rfl⟩ := own_slice o2; clear hg) | ((fail_if_success (have := o3)); have := o1; have := o2; refine step_append_ints _ rfl _ _ 33 rfl w1.heap.size 3 i0 Tryd.underlying33 Hi.out hz0 hz1 hz2 _ 12 36 48 (([] ++ k.d) ++ k.i) k.r rfl o2 A2 c2 rfl ((H1.out.below (triB_below (by assumption))).2.2) (by decide) rfl (by decide) (triB_size (by assumption)) ?_; intro v3 w4 o3 hg; have hb := below_of_own o2 hg (triB_size (by assumption)); obtain ⟨B3, d3, rfl⟩ := own_slice o3; clear hg))
    have HG := Lib.hid (show TriB w1.heap.size w1 w.heap.size w4 by (first | (rename_i q; exact q.2.2.2) | (rename_i q _; exact q.2.2.2)))
    obtain ⟨L, eL⟩ : ∃ L, L = Co.all k := ⟨_, rfl⟩
    have HO := Lib.hid (show IntIn w4 w4.heap.size B3 48 L by rw [eL, Co.all, ← List.nil_append k.d]; exact IntIn.of_own o3)
    have HL := Lib.hid (show L.length = 48 from HO.out.1)
    have HB := Lib.hid (HB.out.trans (HG.out.1.mono HB.out.size))
    have HEL := Lib.hid eL
    clear eL o1 o2 o3
    go_wp2
    go_loopw [5, 3] (fun iv sv wr => ∃ j : Nat, j ≤ 48 ∧ iv = .int .i64 j ∧ sv = .string (Zs.putTo L j) ∧ Below w4.heap.size w4 wr) (fun i _ _ => 48 - (intOf i).toNat)
    case atStart => exact ⟨0, Nat.zero_le _, rfl, rfl, Below.refl _ _⟩
    case round =>
      obtain ⟨j, hj, rfl, rfl, hB⟩ := hrel
      have HBR := Lib.hid hB
      clear hB
      by_cases hlt : j < 48
      · obtain ⟨ad, rfl, _, x1⟩ := (HO.out.below HBR.out).at_ hlt
        have z1 := Zs.putTo_size L j
        have z2 := Num.varB_size (Zs.at L j)
        have y1 : ¬ 9223372036854775807 < (Zs.putTo L j).size + (Num.varB (Zs.at L j)).size := by omega
        have Hs := Lib.hid (show Zs.putTo L (j + 1) = Zs.putTo L j ++ Num.varB (Zs.at L j) from rfl)
        have k0 : (0 : Int) ≤ (j : Int) := by omega
        have k1 : (j : Int) < 48 := by omega
        have k2 : decide ((j : Int) < 48) = true := by simp; omega
        clear z1 z2
        go_wp2_with fail
        refine (specVarB_any _ _).mono ?_
        rintro e w5 ⟨rfl, hb⟩
        have HBR := Lib.hid (HBR.out.trans (hb.mono HBR.out.size))
        clear hb
        go_wp2
        go_roundw
        case rel => exact ⟨j + 1, by omega, by go_num, by rw [Hs.out], HBR.out⟩
        case measure => simp [intOf]; omega
      · obtain rfl : j = 48 := by omega
        have k2 : decide (((48 : Nat) : Int) < 48) = false := rfl
        go_wp2
        go_ret
        refine ⟨?_, HB.out.trans (HBR.out.mono HB.out.size)⟩
        rw [Hf.out, ← HEL.out, Zs.put, HL.out]
        rfl

end Go.Proofs.YtpdpkcadolcbmaaDoor

/- Contracts (DrawGC). -/
namespace Go.Proofs.YtpdpkcadolcbmaaDoor
open Go.RowKit
set_option linter.unusedVariables false

theorem Co.put_size (k : Co) : (Co.put k).size ≤ 343 := by
  cases h : Co.ok k with
  | false => rw [Co.put_no h]; exact Nat.zero_le _
  | true =>
    obtain ⟨l0, l1, l2⟩ := Co.ok_len h
    have z0 := Zs.put_size k.d
    have z1 := Zs.put_size k.i
    have z2 := Zs.put_size k.r
    rw [Co.put_yes h, ByteArray.size_append, ByteArray.size_append]
    omega
set_option maxHeartbeats 3200000 in
set_option maxRecDepth 100000 in
theorem drawGetCost_ex (w : World) (k : Code) (hcode : CodeIn w w.heap.size k.a k.cs) (hlen : k.cs.length ≤ 1048576) :
    Calls Tryd.prog 16 #[.slice k.a k.cs.length k.cap] w fun e w' => ∃ u, e = .returned (.string u) ∧ u.size ≤ 2000 ∧ Below w.heap.size w w' := by
  have HK := Lib.hid hcode
  clear hcode
  obtain ⟨B, eB⟩ : ∃ B, B = w.heap.size := ⟨_, rfl⟩
  have HEB := Lib.hid eB
  clear eB
  go_enter Tryd.func16, Tryd.ntmps16
  go_wp2_with fail
  refine (l1New_ex _ k HK.out hlen).mono ?_
  rintro e w1 ⟨rfl, c, g1⟩
  rw [← HEB.out] at c
  rw [← HEB.out]
  have HC := Lib.hid c
  have HG := Lib.hid (Kit.grown_none (r := some B) g1)
  clear c g1
  go_wp2_with fail
  refine (l7Cost_ex _ B k HC.out).mono ?_
  rintro e w2 ⟨h0, h1, h2, c0, c1, c2, L0, L1, L2, rfl, o0, o1, o2, hh, c, g⟩
  have HC := Lib.hid c
  have HG := Lib.hid (Kit.grown_trans HG.out g)
  have HI := Lib.hid (show CoIn w2 w2.heap.size (some ⟨h0, 0, none⟩) (some ⟨h1, 0, none⟩) (some ⟨h2, 0, none⟩) 6 6 36 ⟨L0, L1, L2⟩ from ⟨IntIn.of_own o0, IntIn.of_own o1, IntIn.of_own o2⟩)
  obtain ⟨S, eS⟩ : ∃ S, S = Co.put ⟨L0, L1, L2⟩ := ⟨_, rfl⟩
  have HZ := Lib.hid (show S.size ≤ 343 by rw [eS]; exact Co.put_size _)
  have HES := Lib.hid eS
  clear c g o0 o1 o2 hh eS
  go_wp2_with fail
  refine (specPutCost_any _ _ _ _ _ _ _ _ _ ⟨L0, L1, L2⟩ _ HI.out (by decide) (by decide) (by decide)).mono ?_
  rintro e w3 ⟨rfl, hb⟩
  have HC := Lib.hid (HC.out.kept (Kit.grown_of_below hb) (fun b e => by cases e))
  have HG := Lib.hid (Kit.grown_trans HG.out (Kit.grown_none (Kit.grown_of_below hb)))
  rw [← HES.out]
  clear hb HI
  have HD := Lib.hid fun (w' : World) (g : w.grownBy w' (some B)) => (Below.refl w.heap.size w).grown g (Nat.le_refl _) (fun b e => by injection e with e; have := HEB.out; omega)
  have zS : S.size ≤ 343 := HZ.out
  go_wp2_with fail
  refine (l1Below_ex _ B k _ HC.out).mono ?_
  rintro e w5 ⟨v, rfl, hvv, c, g⟩
  have HC := Lib.hid c
  have HG := Lib.hid (Kit.grown_trans HG.out g)
  clear c g
  by_cases v0 : v = 0
  · have e0 : ((v : Int) == 0) = true := by simp [v0]
    go_wp2_with fail
    refine (l1Spoil_ex _ B k _ (by omega) HC.out).mono ?_
    rintro e w6 ⟨u, rfl, hu, c, g⟩
    go_wp2
    go_ret
    exact ⟨u, rfl, hu, HD.out _ (Kit.grown_trans HG.out g)⟩
  · have e0 : ((v : Int) == 0) = false := beq_eq_false_iff_ne.2 (by omega)
    by_cases v1 : v = 1
    · have e1 : ((v : Int) == 1) = true := by simp [v1]
      have a1 : IntKind.i64.wrap ((S.size : Int) + 1) = (S.size : Int) + 1 := Kit.w64 (by omega) (by omega)
      go_wp2_with fail
      refine (l1Below_ex _ B k _ HC.out).mono ?_
      rintro e w6 ⟨x, rfl, hvx, c, g⟩
      have HC := Lib.hid c
      have HG := Lib.hid (Kit.grown_trans HG.out g)
      clear c g
      have k0 : (0 : Int) ≤ (x : Int) := by omega
      have k1 : (x : Int) ≤ (S.size : Int) := by omega
      have HX := Lib.hid (show (S.extract 0 x).size ≤ 2000 by rw [ByteArray.size_extract]; omega)
      clear hvx
      go_wp2
      go_ret
      exact ⟨_, rfl, HX.out, HD.out _ HG.out⟩
    · have e1 : ((v : Int) == 1) = false := beq_eq_false_iff_ne.2 (by omega)
      by_cases v2 : v = 2
      · have e2 : ((v : Int) == 2) = true := by simp [v2]
        have y : ¬ 9223372036854775807 < S.size + 1 := by omega
        have HX := Lib.hid (show (S ++ (⟨#[0]⟩ : ByteArray)).size ≤ 2000 by rw [ByteArray.size_append]; show S.size + 1 ≤ 2000; omega)
        go_wp2
        go_ret
        exact ⟨_, rfl, HX.out, HD.out _ HG.out⟩
      · have e2 : ((v : Int) == 2) = false := beq_eq_false_iff_ne.2 (by omega)
        go_wp2
        go_ret
        exact ⟨_, rfl, by omega, HD.out _ HG.out⟩

end Go.Proofs.YtpdpkcadolcbmaaDoor

/- Contracts (StepF). -/
namespace Go.Proofs.YtpdpkcadolcbmaaDoor
open Go.RowKit
set_option linter.unusedVariables false

/-- out = append([]int{}, x...), x not empty, as one step of a region that draws: the row is new -/
theorem step_append_fresh {P : Program} {ops : Array Oper} {o : Oper} {a : Act} (w : World) {K : Act → World → Prop} {Q : Exit → Act → World → Prop} {E : Prop} (hgd : o.guard = none) (s x : Operand) (t : TypeId)
    (ho : o.op = .call { callee := .builtin .append, args := #[s, x], argTypes := #[t, t] })
    (e : TypeId) (i : TypeInfo) (ht : P.underlying t = some (.slice e)) (hi : P.info? e = some i) (hz : i.zero = some (.int .i64 0))
    (hsize : i.size = 1) (hby : i.bytes = 8) (ad0 : Addr) (m : Nat) (zs : List Int) (hs : a.eval s = .slice (some ad0) 0 0)
    {B : Nat} (A : Option Addr) (c : Nat) (hx : a.eval x = .slice A m c) (hin : IntIn w B A m zs) (hpos : 0 < m) (h63 : m ≤ 1073741824)
    (h : ∀ g c' w', g = w.heap.size → w'.ownsRow g e 1 (.slice (some ⟨g, 0, none⟩) m c') m (ints zs) → w.grownBy w' none → K (a.put o.dst (.slice (some ⟨g, 0, none⟩) m c')) w') :
    if Region.wanted o (yielded ops a.tmps) = true then Oper.wp P o a w K Q else E := by
  have hw : Region.wanted o (yielded ops a.tmps) = true := by simp [Region.wanted, hgd]
  rw [if_pos hw]
  obtain ⟨ad, rfl, _⟩ := hin.2.1 hpos
  have hlen : (ints zs).length = m * i.size := by rw [ints_length, hin.1, hsize, Nat.mul_one]
  have hr := run_append_grow (P := P) w t o.type e i (.int .i64 0) ht hi hz ad0 0 0 [] (by simp) (fun j v h => by simp at h) ad m c (ints zs) hlen hin.cells_at (by omega) (by omega) (growslice_fits (by omega) (by rw [hby]; omega))
  have hge := grownCap_ge w (0 + m) 0 e
  have hcm : grownCap w (0 + m) 0 e ≤ maxLen := grownCap_le_maxLen w (0 + m) 0 e (by unfold maxLen; omega)
  rw [Nat.zero_add] at hr hge hcm
  unfold Oper.wp execOp
  simp only [ho, resolve, invoke, builtin, Sem.run_bind, Sem.run_pure, Result.andThen_ok, List.map_toArray, List.map_cons, List.map_nil, hs, hx, hr]
  refine h _ _ _ rfl ⟨by rw [hlen, hsize], .inr ⟨w.heap.size, _, _, rfl, Nat.le_refl _, heap_alloc_new w.drew _, hge, hcm, ?_, ?_⟩⟩ ⟨rfl, rfl, rfl, by simp, fun k hk _ => heap_alloc_old w.drew _ hk⟩
  · simp only [Array.size_append, List.size_toArray, size_zeroCells, List.length_nil, hlen, hsize]
    simp [Value.cells]
    omega
  · simp only [Array.toList_append, List.nil_append]
    rw [Nat.mul_one, ← hin.1, ← ints_length]
    exact List.take_left
/-- the world has only grown since -/
def BelS (w0 wq : World) : Prop := Below w0.heap.size w0 wq
theorem BelS.alloc' {w0 wx : World} (h : BelS w0 wx) (o : Obj) : BelS w0 (wx.alloc o) := Below.alloc h h.size o
theorem BelS.alloc_drew {w0 wx : World} (h : BelS w0 wx.drew) (o : Obj) : BelS w0 (wx.alloc o).drew := BelS.alloc' h o
theorem BelS.on {w0 wx wq : World} (h : BelS w0 wx) (hb : Below wx.heap.size wx wq) : BelS w0 wq := Below.trans h (hb.mono h.size)
theorem BelS.set3 {w0 wx : World} {g : Nat} (h : BelS w0 wx) (hg : w0.heap.size ≤ g) (u0 u1 u2 : Value) : BelS w0 (((wx.setCell ⟨g, 0, none⟩ u0).setCell ⟨g, 1, none⟩ u1).setCell ⟨g, 2, none⟩ u2) :=
  ((Below.setCell h hg u0).setCell hg u1).setCell hg u2
theorem BelS.le {w0 wq : World} (h : BelS w0 wq) : w0.heap.size ≤ wq.heap.size := h.size
/-- a new variable of three cells, nothing stored yet -/
def Zero3 (w : World) (g : Nat) : Prop := w.heap[g]? = some (.cells #[.slice none 0 0, .slice none 0 0, .slice none 0 0] 35 (0, 0))
theorem Zero3.new {w : World} {g : Nat} (h : w.heap.size = g) : Zero3 (w.alloc (.cells #[.slice none 0 0, .slice none 0 0, .slice none 0 0] 35)) g := by subst h; exact heap_alloc_new w _
theorem Zero3.lt {w : World} {g : Nat} (h : Zero3 w g) : g < w.heap.size := by
  rcases Nat.lt_or_ge g w.heap.size with h' | h'
  · exact h'
  · unfold Zero3 at h; rw [Array.getElem?_eq_none h'] at h; cases h
theorem Zero3.on {w w' : World} {g : Nat} (h : Zero3 w g) (hg : w.grownBy w' none) : Zero3 w' g := (hg.block g h.lt (fun e => by cases e)).trans h
theorem Zero3.alloc {w : World} {g : Nat} (h : Zero3 w g) (o : Obj) : Zero3 (w.alloc o) g := h.on (World.grownBy_alloc w o none)
theorem Zero3.drew {w : World} {g : Nat} (h : Zero3 w g) : Zero3 w.drew g := h
theorem Zero3.cells {w : World} {g : Nat} (h : Zero3 w g) : w.cell? ⟨g, 0, none⟩ = some (.slice none 0 0) ∧ w.cell? ⟨g, 1, none⟩ = some (.slice none 0 0) ∧ w.cell? ⟨g, 2, none⟩ = some (.slice none 0 0) ∧ w.frozen? ⟨g, 0, none⟩ = false ∧ w.frozen? ⟨g, 1, none⟩ = false ∧ w.frozen? ⟨g, 2, none⟩ = false := by
  unfold Zero3 at h
  simp [World.cell?, World.frozen?, h]
theorem region_cut {P : Program} {c : Go.Code} {Q : Exit → Act → World → Prop} {a : Act} {w : World} (R : Act → World → Prop) (h : ∀ a w, R a w → Q .normal a w) (h1 : c.wp P (fun e a w => e = .normal ∧ R a w) a w) : c.wp P Q a w :=
  Go.Code.wp_mono (fun e a w hh => by obtain ⟨rfl, hh⟩ := hh; exact h a w hh) h1
/-- three rows of the call's own and the variable that holds them: what the region leaves -/
def DoneS (w0 wq : World) (D0 D1 D2 : List Int) (g10 G0 G1 G2 e0 e1 e2 : Nat) : Prop :=
  Box3 wq g10 (.slice (some ⟨G0, 0, none⟩) 6 e0) (.slice (some ⟨G1, 0, none⟩) 6 e1) (.slice (some ⟨G2, 0, none⟩) 36 e2) ∧ wq.ownsRow w0.heap.size 3 1 (.slice (some ⟨G0, 0, none⟩) 6 e0) 6 (ints D0) ∧ wq.ownsRow w0.heap.size 3 1 (.slice (some ⟨G1, 0, none⟩) 6 e1) 6 (ints D1) ∧ wq.ownsRow w0.heap.size 3 1 (.slice (some ⟨G2, 0, none⟩) 36 e2) 36 (ints D2) ∧
  (G0 ≠ G1 ∧ G0 ≠ G2 ∧ G1 ≠ G2) ∧ BelS w0 wq ∧ w0.heap.size ≤ g10 ∧ g10 < wq.heap.size
theorem DoneS.made {w0 w7 : World} {D0 D1 D2 : List Int} {G0 G1 G2 e0 e1 e2 : Nat} (o0 : w7.ownsRow G0 3 1 (.slice (some ⟨G0, 0, none⟩) 6 e0) 6 (ints D0)) (o1 : w7.ownsRow G1 3 1 (.slice (some ⟨G1, 0, none⟩) 6 e1) 6 (ints D1)) (o2 : w7.ownsRow G2 3 1 (.slice (some ⟨G2, 0, none⟩) 36 e2) 36 (ints D2))
    (h : w0.heap.size ≤ G0 ∧ G0 < G1 ∧ G1 < G2) (hB : BelS w0 w7) : DoneS w0 (w7.alloc (.cells #[.slice (some ⟨G0, 0, none⟩) 6 e0, .slice (some ⟨G1, 0, none⟩) 6 e1, .slice (some ⟨G2, 0, none⟩) 36 e2] 35)) D0 D1 D2 w7.heap.size G0 G1 G2 e0 e1 e2 :=
  ⟨Box3.made _ _ _ _ _, own_base (o0.alloc _) (by omega), own_base (o1.alloc _) (by omega), own_base (o2.alloc _) (by omega), by omega, hB.alloc' _, hB.le, by simp⟩
theorem DoneS.stored {w0 w7 : World} {D0 D1 D2 : List Int} {g10 G0 G1 G2 e0 e1 e2 : Nat} (o0 : w7.ownsRow G0 3 1 (.slice (some ⟨G0, 0, none⟩) 6 e0) 6 (ints D0)) (o1 : w7.ownsRow G1 3 1 (.slice (some ⟨G1, 0, none⟩) 6 e1) 6 (ints D1)) (o2 : w7.ownsRow G2 3 1 (.slice (some ⟨G2, 0, none⟩) 36 e2) 36 (ints D2))
    (h : w0.heap.size ≤ G0 ∧ G0 < G1 ∧ G1 < G2) (hB : BelS w0 w7) (hz : Zero3 w7 g10) (hg : w0.heap.size ≤ g10) (hne : g10 ≠ G0 ∧ g10 ≠ G1 ∧ g10 ≠ G2) :
    DoneS w0 (((w7.setCell ⟨g10, 0, none⟩ (.slice (some ⟨G0, 0, none⟩) 6 e0)).setCell ⟨g10, 1, none⟩ (.slice (some ⟨G1, 0, none⟩) 6 e1)).setCell ⟨g10, 2, none⟩ (.slice (some ⟨G2, 0, none⟩) 36 e2)) D0 D1 D2 g10 G0 G1 G2 e0 e1 e2 := by
  have hs : ∀ u0 u1 u2, w7.grownBy (((w7.setCell ⟨g10, 0, none⟩ u0).setCell ⟨g10, 1, none⟩ u1).setCell ⟨g10, 2, none⟩ u2) (some g10) := fun _ _ _ => Kit.grown_then_set (Kit.grown_then_set (Kit.grown_set _ _ _ _) _ _) _ _
  have hl := hz.lt
  refine ⟨?_, own_base (World.ownsRow.kept o0 (hs _ _ _) (.inr (by simp [Value.ownBlock]; omega))) (by omega), own_base (World.ownsRow.kept o1 (hs _ _ _) (.inr (by simp [Value.ownBlock]; omega))) (by omega), own_base (World.ownsRow.kept o2 (hs _ _ _) (.inr (by simp [Value.ownBlock]; omega))) (by omega), by omega, BelS.set3 hB hg _ _ _, hg, by simpa using hl⟩
  unfold Zero3 at hz
  refine ⟨?_, ?_, ?_⟩ <;> simp [World.cell?, World.setCell, Array.getElem?_modify, hz]
/-- a part of a row -/
theorem IntIn.part {w : World} {B n m k : Nat} {ad : Addr} {zs : List Int} (h : IntIn w B (some ad) n zs) (hk : k + m ≤ n) (hm : 0 < m) : IntIn w B (some (ad.add k)) m ((zs.take (k + m)).drop k) := by
  refine ⟨?_, fun _ => ?_, fun a ea j hj => ?_⟩
  · have := h.1
    rw [List.length_drop, List.length_take]
    omega
  · obtain ⟨a, ea, hlt⟩ := h.2.1 (by omega)
    injection ea with ea
    subst ea
    exact ⟨_, rfl, by rw [show (ad.add k).block = ad.block by unfold Addr.add; split <;> rfl]; exact hlt⟩
  · injection ea with ea
    subst ea
    have := h.2.2 ad rfl (k + j) (by omega)
    rw [Addr.add_add, this]
    congr 2
    simp only [Zs.at, List.getD_eq_getElem?_getD, List.getElem?_drop]
    rw [List.getElem?_take_of_lt (by omega)]

end Go.Proofs.YtpdpkcadolcbmaaDoor

/- Contracts (AnyCD). -/
namespace Go.Proofs.YtpdpkcadolcbmaaDoor
open Go.RowKit
set_option linter.unusedVariables false

/-- a cost that a draw has laid; of the second row the first cell may be cut off -/
def CostA (w : World) (B : Nat) (k : Code) (e : Ending) (w' : World) : Prop :=
  ∃ h0 h1 h2 c0 c1 c2 L0 L1 L2 v1, e = .returned (.agg #[.slice (some ⟨h0, 0, none⟩) 6 c0, v1, .slice (some ⟨h2, 0, none⟩) 36 c2]) ∧ (v1 = .slice (some ⟨h1, 0, none⟩) 6 c1 ∨ v1 = .slice (some ⟨h1, 1, none⟩) 5 (c1 - 1)) ∧ w'.ownsRow w.heap.size 3 1 (.slice (some ⟨h0, 0, none⟩) 6 c0) 6 (ints L0) ∧ w'.ownsRow w.heap.size 3 1 (.slice (some ⟨h1, 0, none⟩) 6 c1) 6 (ints L1) ∧ w'.ownsRow w.heap.size 3 1 (.slice (some ⟨h2, 0, none⟩) 36 c2) 36 (ints L2) ∧ CurX w' B k ∧ w.grownBy w' (some B)
theorem CostD.any {w w' : World} {B : Nat} {k : Code} {e : Ending} (h : CostD w B k e w') : CostA w B k e w' := by
  obtain ⟨h0, h1, h2, c0, c1, c2, L0, L1, L2, rfl, o0, o1, o2, hh, hc, hG⟩ := h
  exact ⟨h0, h1, h2, c0, c1, c2, L0, L1, L2, _, rfl, .inl rfl, o0, o1, o2, hc, hG⟩
theorem CoD.tail {w0 w : World} {B s g : Nat} {k : Code} {h0 h1 h2 c0 c1 c2 : Nat} {L0 L1 L2 : List Int} (h : CoD w0 B s g k h0 h1 h2 c0 c1 c2 L0 L1 L2 w) (u u0 u1 u2 : Value) : CostA w0 B k (.returned (.agg #[.slice (some ⟨h0, 0, none⟩) 6 c0, .slice (some ⟨h1, 1, none⟩) 5 (c1 - 1), .slice (some ⟨h2, 0, none⟩) 36 c2])) ((((w.setCell ⟨g, 1, none⟩ u).setCell ⟨s, 0, none⟩ u0).setCell ⟨s, 1, none⟩ u1).setCell ⟨s, 2, none⟩ u2) := by
  obtain ⟨hx, hf, hy, hfy, o0, o1, o2, hh, hc, hG, ⟨hB, hs0, hg0, hsg, hsl, hgl⟩, hn⟩ := h
  have e0 := hn h0 (by simp)
  have e1 := hn h1 (by simp)
  have e2 := hn h2 (by simp)
  have hg : w.grownBy (w.setCell ⟨g, 1, none⟩ u) (some g) := Kit.grown_set _ _ _ _
  have hs : (w.setCell ⟨g, 1, none⟩ u).grownBy ((((w.setCell ⟨g, 1, none⟩ u).setCell ⟨s, 0, none⟩ u0).setCell ⟨s, 1, none⟩ u1).setCell ⟨s, 2, none⟩ u2) (some s) := Kit.grown_then_set (Kit.grown_then_set (Kit.grown_set _ _ _ _) _ _) _ _
  have kp : ∀ {v : Value} {n : Nat} {ys : List Value} {b : Nat}, v.ownBlock = some b → b ≠ s ∧ b ≠ g → w.ownsRow w0.heap.size 3 1 v n ys → ((((w.setCell ⟨g, 1, none⟩ u).setCell ⟨s, 0, none⟩ u0).setCell ⟨s, 1, none⟩ u1).setCell ⟨s, 2, none⟩ u2).ownsRow w0.heap.size 3 1 v n ys := fun hv hb o =>
    World.ownsRow.kept (World.ownsRow.kept o hg (.inr (by rw [hv]; intro e; injection e with e; exact hb.2 e))) hs (.inr (by rw [hv]; intro e; injection e with e; exact hb.1 e))
  exact ⟨h0, h1, h2, c0, c1, c2, L0, L1, L2, _, rfl, .inr rfl, kp rfl e0 o0, kp rfl e1 o1, kp rfl e2 o2, (hc.kept hg (fun b e => by injection e with e; omega)).kept hs (fun b e => by injection e with e; omega), (hG.andThen hg (fun j hj => .inl (by injection hj with hj; omega))).andThen hs (fun j hj => .inl (by injection hj with hj; omega))⟩
/-- a literal's cells stand behind a draw -/
theorem lit_kept {w w' : World} {B : Nat} {C : Array Value} {t : TypeId} {xs : List Int} (hC : C = (xs.map (Value.int .i64)).toArray) (hB : B < w.heap.size) (hg : (w.alloc (.cells C t)).grownBy w' (some B)) : ∀ j, j < xs.length → w'.cell? ⟨w.heap.size, j, none⟩ = some (.int .i64 (xs.getD j 0)) := by
  intro j hj
  refine hg.cell (a := ⟨w.heap.size, j, none⟩) ?_ (fun e => by injection e with e; simp only at e; omega)
  rw [World.cell?_alloc_at (hn := rfl), hC]
  simp [List.getD_eq_getElem?_getD, hj]
theorem lit_lt {w w' : World} {B : Nat} {o : Obj} (hg : (w.alloc o).grownBy w' (some B)) : w.heap.size < w'.heap.size := by
  have := hg.size
  rw [World.size_alloc] at this
  omega
set_option maxHeartbeats 3200000 in
set_option maxRecDepth 100000 in
theorem l7Any_ex (w : World) (B : Nat) (k : Code) (c : CurX w B k) :
    Calls Tryd.prog 31 #[.pointer (some ⟨B, 0, none⟩)] w (CostA w B k) := by
  have HC := Lib.hid c
  have hBB := Lib.hid c.lt
  clear c
  obtain ⟨wz, hwz⟩ : ∃ wz, wz = w.alloc (.cells #[.slice none 0 0, .slice none 0 0, .slice none 0 0] 35) := ⟨_, rfl⟩
  have HX := Lib.hid (show Box3 wz w.heap.size (.slice none 0 0) (.slice none 0 0) (.slice none 0 0) by rw [hwz]; exact Box3.made _ _ _ _ _)
  have HF := Lib.hid (show ∀ off, wz.frozen? ⟨w.heap.size, off, none⟩ = false by rw [hwz]; exact fun off => by simp)
  have HG := Lib.hid (show w.grownBy wz (some B) by rw [hwz]; exact Kit.grown_alloc _ _ _)
  have HS := Lib.hid (show w.heap.size < wz.heap.size by rw [hwz]; simp)
  have HC := Lib.hid (show CurX wz B k by rw [hwz]; exact HC.out.alloc _)
  go_enter Tryd.func31, Tryd.ntmps31
  go_wp2_with fail
  rw [← hwz]
  clear hwz
  have hBz : B < wz.heap.size := HC.out.lt
  refine (l7Cost_ex _ B k HC.out).mono ?_
  rintro e w1 ⟨h0, h1, h2, c0, c1, c2, L0, L1, L2, rfl, o0, o1, o2, hh, hc, gc⟩
  have hsl := Nat.lt_of_lt_of_le HS.out gc.size
  have HD := Lib.hid (CoD.made (k := k) (w0 := w) (wz := wz) (w1 := w1) (B := B) (s := w.heap.size) hc (Kit.grown_trans HG.out gc) hBB.out (Nat.le_refl _) HS.out (HX.out.grown gc HS.out (fun b e => by injection e with e; have := hBB.out; omega)) (free_kept gc HS.out (fun b e => by injection e with e; have := hBB.out; omega) HF.out) hsl o0 o1 o2 hh)
  obtain ⟨g, eg⟩ : ∃ g, g = w1.heap.size := ⟨_, rfl⟩
  obtain ⟨wc, hwc⟩ : ∃ wc, wc = w1.alloc (.cells #[.slice (some ⟨h0, 0, none⟩) 6 c0, .slice (some ⟨h1, 0, none⟩) 6 c1, .slice (some ⟨h2, 0, none⟩) 36 c2] 35) := ⟨_, rfl⟩
  rw [← eg, ← hwc] at HD
  clear o0 o1 o2 hh hc gc hsl HX HF HG HS HC hBz
  go_wp2_with fail
  rw [← hwc]
  rw [← eg]
  clear hwc eg
  refine (l1Below_ex _ B k _ HD.out.cursor).mono ?_
  rintro e w2 ⟨u, rfl, hu, cv, gv⟩
  have HD := Lib.hid (CoD.cur HD.out gv cv)
  clear cv gv
  by_cases u0 : u = 0
  · have e0 : ((u : Int) == 0) = true := by simp [u0]
    go_wp2_with fail
    have S0 := Lib.hid (CoD.held HD.out.drew)
    go_region_held3 (fun wq => wq.cell? ⟨g, 0, none⟩ = some (.slice (some ⟨h0, 0, none⟩) 6 c0) ∧ wq.cell? ⟨g, 1, none⟩ = some (.slice (some ⟨h1, 0, none⟩) 6 c1) ∧ wq.cell? ⟨g, 2, none⟩ = some (.slice (some ⟨h2, 0, none⟩) 36 c2)) (first | exact S0.out | exact CoD.held (CoD.put0 hd _ _) | exact CoD.held hd | exact CoD.held (CoD.alloc hd _) | exact CoD.held (CoD.alloc HD.out.drew _)) (first | (go_at_call 37; (fail_if_success (have := hvv)); refine (l1Below_ex _ B k 6 (CoD.cursor HD.out.drew)).mono ?_; rintro e w5 ⟨v, rfl, hvv, cv, gv⟩; have hd := CoD.cur HD.out.drew gv cv; have hvl : v < 6 := (by omega); have i0 : (0 : Int) ≤ (v : Int) := (by omega); have i1 : (v : Int) < 6 := (by omega)) | (go_at_call 37; (fail_if_success (have := hvv)); refine (l1Below_ex _ B k 6 (CoD.cursor (CoD.alloc HD.out.drew _))).mono ?_; rintro e w5 ⟨v, rfl, hvv, cv, gv⟩; have hd := CoD.cur (CoD.alloc HD.out.drew _) gv cv; have hvl : v < 6 := (by omega); have i0 : (0 : Int) ≤ (v : Int) := (by omega); have i1 : (v : Int) < 6 := (by omega); have hB2 : B < (World.heap w2.drew).size := CurX.lt (CoD.cursor HD.out.drew); have kc := lit_kept (xs := [-1, 1001, 1000]) rfl hB2 gv; have kl := lit_lt gv) | (go_at_call 44; have := kc; refine (l1PickInt_ex _ B _ k (CoD.cursor hd) [-1, 1001, 1000] 3 rfl (by decide) (by decide) hB2 kl kc).mono ?_; rintro e w6 ⟨y, rfl, cy, gy⟩; have hd := CoD.cur hd gy cy; obtain ⟨e0c, e0f⟩ := CoD.cell0 hd hvl) | (go_at_call 44; (fail_if_success (have := kc)); refine (l1PickInt_lit _ B k (CoD.cursor hd) _ _ [-1, 1001, 1000] 3 rfl rfl (by decide) (by decide)).mono ?_; rintro e w6 ⟨y, rfl, cy, gy⟩; have hd := CoD.cur hd gy cy; obtain ⟨e0c, e0f⟩ := CoD.cell0 hd hvl))
    all_goals have hd := CoD.put0 hd v y
    all_goals clear S0 cv gv cy gy e0c e0f
    all_goals
      have E := Lib.hid fun u0 u1 u2 => CoD.done hd u0 u1 u2
      obtain ⟨⟨x0, x1, x2⟩, hf, ⟨y0, y1, y2⟩, _⟩ := hd
      have f0 := hf 0
      have f1 := hf 1
      have f2 := hf 2
      clear hf
      go_wp2
      (try simp only [Exit.inBlock, Exit.then])
      refine bodyPost_ret (v := .agg #[.slice (some ⟨h0, 0, none⟩) 6 c0, .slice (some ⟨h1, 0, none⟩) 6 c1, .slice (some ⟨h2, 0, none⟩) 36 c2]) ?_ rfl ?_
      · rw [results_cell1 rfl]
        go_simp
      · exact (E.out _ _ _).any
  · have e0 : ((u : Int) == 0) = false := beq_eq_false_iff_ne.2 (by omega)
    by_cases u1 : u = 1
    · have e1 : ((u : Int) == 1) = true := by simp [u1]
      go_wp2_with fail
      have S0 := Lib.hid (CoD.held HD.out.drew)
      go_region_held3 (fun wq => wq.cell? ⟨g, 0, none⟩ = some (.slice (some ⟨h0, 0, none⟩) 6 c0) ∧ wq.cell? ⟨g, 1, none⟩ = some (.slice (some ⟨h1, 0, none⟩) 6 c1) ∧ wq.cell? ⟨g, 2, none⟩ = some (.slice (some ⟨h2, 0, none⟩) 36 c2)) (first | exact S0.out | exact CoD.held (CoD.put2 hd _ _) | exact CoD.held hd) ((go_at_call 37; (fail_if_success (have := hvv)); refine (l1Below_ex _ B k 36 (CoD.cursor HD.out.drew)).mono ?_; rintro e w5 ⟨v, rfl, hvv, cv, gv⟩; have hd := CoD.cur HD.out.drew gv cv; have hvl : v < 36 := (by omega); have i0 : (0 : Int) ≤ (v : Int) := (by omega); have i1 : (v : Int) < 36 := (by omega); obtain ⟨e0c, e0f⟩ := CoD.cell2 hd hvl))
      have hd := CoD.put2 hd v 5
      clear S0 cv gv e0c e0f
      have E := Lib.hid fun u0 u1 u2 => CoD.done hd u0 u1 u2
      obtain ⟨⟨x0, x1, x2⟩, hf, ⟨y0, y1, y2⟩, _⟩ := hd
      have f0 := hf 0
      have f1 := hf 1
      have f2 := hf 2
      clear hf
      go_wp2
      (try simp only [Exit.inBlock, Exit.then])
      refine bodyPost_ret (v := .agg #[.slice (some ⟨h0, 0, none⟩) 6 c0, .slice (some ⟨h1, 0, none⟩) 6 c1, .slice (some ⟨h2, 0, none⟩) 36 c2]) ?_ rfl ?_
      · rw [results_cell1 rfl]
        go_simp
      · exact (E.out _ _ _).any
    · have e1 : ((u : Int) == 1) = false := beq_eq_false_iff_ne.2 (by omega)
      have hd := HD.out
      clear HD
      by_cases u2 : u = 2
      · have e2 : ((u : Int) == 2) = true := by simp [u2]
        have E := Lib.hid fun u u0 u1 u2 => CoD.tail hd u u0 u1 u2
        have hcap := own_cap hd.2.2.2.2.2.1
        have k1 : (1 : Int) ≤ (c1 : Int) := by omega
        have k2 : ¬ c1 = 1 := by omega
        have k3 : (1 : Int) ≤ 6 := by omega
        obtain ⟨⟨x0, x1, x2⟩, hf, ⟨y0, y1, y2⟩, hfy, _, _, _, _, _, _, ⟨_, _, _, hsg, _, _⟩, _⟩ := hd
        have f0 := hf 0
        have f1 := hf 1
        have f2 := hf 2
        have fy := hfy 1
        clear hf hfy hcap
        go_wp2
        (try simp only [Exit.inBlock, Exit.then])
        refine bodyPost_ret (v := .agg #[.slice (some ⟨h0, 0, none⟩) 6 c0, .slice (some ⟨h1, 1, none⟩) 5 (c1 - 1), .slice (some ⟨h2, 0, none⟩) 36 c2]) ?_ rfl ?_
        · rw [results_cell1 rfl]
          go_simp
        · exact E.out _ _ _ _
      · have e2 : ((u : Int) == 2) = false := beq_eq_false_iff_ne.2 (by omega)
        have E := Lib.hid fun u0 u1 u2 => CoD.done hd u0 u1 u2
        obtain ⟨⟨x0, x1, x2⟩, hf, ⟨y0, y1, y2⟩, _⟩ := hd
        have f0 := hf 0
        have f1 := hf 1
        have f2 := hf 2
        clear hf
        go_wp2
        (try simp only [Exit.inBlock, Exit.then])
        refine bodyPost_ret (v := .agg #[.slice (some ⟨h0, 0, none⟩) 6 c0, .slice (some ⟨h1, 0, none⟩) 6 c1, .slice (some ⟨h2, 0, none⟩) 36 c2]) ?_ rfl ?_
        · rw [results_cell1 rfl]
          go_simp
        · exact (E.out _ _ _).any

end Go.Proofs.YtpdpkcadolcbmaaDoor
