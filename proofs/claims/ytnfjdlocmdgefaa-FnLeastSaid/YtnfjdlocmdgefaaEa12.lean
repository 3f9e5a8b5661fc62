/- Texts of one claim laid into one file, in build order: UnitS. -/
import Derived.Test.YtnfjdlocmdgefaaEa11
import Derived.Test.YtnfjdlocmdgefaaEa7
import Derived.Outline
/- Contracts (UnitS). -/
namespace Go.Proofs.Ytnfjdlocmdgefaa
open Go.RowKit
set_option linter.unusedVariables false

def Co.urel (j : Nat) : List Int := (List.range j).map fun p => if p / 6 = p % 6 then 0 else 1
def Co.unit : Co := ⟨List.replicate 6 1, List.replicate 6 1, Co.urel 36⟩
theorem Co.urel_succ (j : Nat) : Co.urel (j + 1) = Co.urel j ++ [if j / 6 = j % 6 then 0 else 1] := by simp [Co.urel, List.range_succ]
theorem Co.urel_length (j : Nat) : (Co.urel j).length = j := by simp [Co.urel]
/-- the answer is a cost of the call's own: three rows apart -/
def OwnCo (k : Co) (w : World) (e : Ending) (w' : World) : Prop :=
  ∃ A0 A1 A2 c0 c1 c2, e = .returned (.agg #[.slice A0 k.d.length c0, .slice A1 k.i.length c1, .slice A2 k.r.length c2]) ∧
    w'.ownsRow w.heap.size 3 1 (.slice A0 k.d.length c0) k.d.length (ints k.d) ∧ w'.ownsRow w.heap.size 3 1 (.slice A1 k.i.length c1) k.i.length (ints k.i) ∧ w'.ownsRow w.heap.size 3 1 (.slice A2 k.r.length c2) k.r.length (ints k.r) ∧
    Apart (.slice A0 k.d.length c0) (.slice A1 k.i.length c1) ∧ Apart (.slice A0 k.d.length c0) (.slice A2 k.r.length c2) ∧ Apart (.slice A1 k.i.length c1) (.slice A2 k.r.length c2) ∧ Below w.heap.size w w'
theorem results_cell1 {fn : Func} {p : Tmp} {ty : TypeId} (h : fn.results = #[.cell p ty]) (tmps : Array Value) (P : Program) (w : World) :
    (results fn tmps).run P w = ((asAddr (tmps.getD p undef)).run P w).andThen fun a w₁ => (loadVar ty a).run P w₁ := by
  simp only [results, h]
  simp [Sem.run_bind]
theorem info_intU : (Try.prog.info? 3).map (fun i => (i.zero, i.size, i.bytes)) = some (some (.int .i64 0), 1, 8) := by kernel_rfl
set_option maxHeartbeats 1600000 in
set_option maxRecDepth 100000 in
theorem specUnitCost_any (w : World) : Calls Try.prog 82 #[] w (OwnCo Co.unit w) := by
  obtain ⟨i0, hi, hz0, hz1, hz2⟩ := info_parts info_intU
  have Hi := Lib.hid hi
  clear hi
  obtain ⟨g, hg⟩ : ∃ g, g = w.heap.size + 1 := ⟨_, rfl⟩
  obtain ⟨wz, hwz⟩ : ∃ wz, wz = w.alloc (.cells #[.slice none 0 0, .slice none 0 0, .slice none 0 0] 27) := ⟨_, rfl⟩
  have hzs : wz.heap.size = g := by rw [hwz, hg]; simp
  have HBZ := Lib.hid (show Below w.heap.size w wz by rw [hwz]; exact (Below.refl w.heap.size w).alloc (Nat.le_refl _) _)
  have HZ := Lib.hid (show Box3 wz w.heap.size (.slice none 0 0) (.slice none 0 0) (.slice none 0 0) ∧ ∀ off, wz.frozen? ⟨w.heap.size, off, none⟩ = false by rw [hwz]; exact ⟨Box3.made _ _ _ _ _, fun off => by simp⟩)
  have HT := Lib.hid (show ThreeAt wz g 0 0 0 [] [] [] (.slice none 0 0) (.slice none 0 0) (.slice none 0 0) (wz.alloc (.cells #[.slice none 0 0, .slice none 0 0, .slice none 0 0] 27)) from
    ⟨by rw [← hzs]; exact Box3.made _ _ _ _ _, fun off => by rw [← hzs]; simp, own_nil, own_nil, own_nil, .inl rfl, .inl rfl, .inl rfl, (Below.refl _ _).alloc (Nat.le_refl _) _, by simp [hzs]⟩)
  go_enter Try.func82, Try.ntmps82
  go_wp2
  rw [← hwz, ← hg]
  have HWZ := Lib.hid hwz
  have HGG := Lib.hid hg
  have hgz : wz.heap.size ≤ g := by omega
  have HZS := Lib.hid hzs
  have hgw : w.heap.size < g := by omega
  clear hwz hg hzs
  go_loopw [2] (fun iv wr => ∃ i : Nat, i ≤ 6 ∧ iv = .int .i64 i ∧ ∃ v0 v1 v2, ThreeAt wz g i i (6 * i) (List.replicate i 1) (List.replicate i 1) (Co.urel (6 * i)) v0 v1 v2 wr) (fun i _ => 6 - (intOf i).toNat)
  case atStart => exact ⟨0, Nat.zero_le _, rfl, _, _, _, HT.out⟩
  case round =>
    clear HT
    obtain ⟨i, hi6, rfl, v0, v1, v2, hT⟩ := hrel
    have HT := Lib.hid hT
    clear hT
    by_cases hlt : i < 6
    · have k0 : decide ((i : Int) < 6) = true := by simp; omega
      have hgs := HT.out.2.2.2.2.2.2.2.2.2
      have b0 := HT.out.1.1
      go_wp2_with (first | (at_builtin; refine append_int_at wr rfl _ _ 25 rfl (g + 1) 3 i0 Try.underlying25 Hi.out hz0 hz1 hz2 v0 i (List.replicate i 1) rfl HT.out.2.2.1 (by first | (simp; done) | exact (Co.urel_length _).symm) (1) (by first | rfl | (rw [World.size_setCell]; rfl)) (by first | (simp; omega) | (rw [Co.urel_length]; omega)) (by omega) ?_; intro v' w2 hown hgrow hwh; rw [← List.replicate_succ', List.length_replicate] at hown; obtain ⟨Aw2, cw2, rfl⟩ := own_slice hown; have mw2 := Three.mid0 HT.out hgrow; have qw2 := (mw2.1 0).trans HT.out.1.1; have ew2 := mw2.2 0; have HT2 := Lib.hid (Three.push0 hgz HT.out hown hgrow hwh); have b1 := (mw2.1 1).trans HT.out.1.2.1; have hgs := HT2.out.2.2.2.2.2.2.2.2.2; clear hown hgrow hwh mw2) | (at_builtin; refine append_int_at (World.setCell w2 ⟨g, 0, none⟩ (.slice Aw2 (i + 1) cw2)) rfl _ _ 25 rfl (g + 1) 3 i0 Try.underlying25 Hi.out hz0 hz1 hz2 v1 i (List.replicate i 1) rfl HT2.out.2.2.2.1 (by first | (simp; done) | exact (Co.urel_length _).symm) (1) (by first | rfl | (rw [World.size_setCell]; rfl)) (by first | (simp; omega) | (rw [Co.urel_length]; omega)) (by omega) ?_; intro v' w3 hown hgrow hwh; rw [← List.replicate_succ', List.length_replicate] at hown; obtain ⟨Aw3, cw3, rfl⟩ := own_slice hown; have mw3 := Three.mid1 HT2.out hgrow; have qw3 := (mw3.1 1).trans HT2.out.1.2.1; have ew3 := mw3.2 1; have HT3 := Lib.hid (Three.push1 hgz HT2.out hown hgrow hwh); have hgs := HT3.out.2.2.2.2.2.2.2.2.2; clear hown hgrow hwh mw3))
      clear HT HT2 b0 b1 qw2 ew2 qw3 ew3 hgs
      obtain ⟨wq, hwq⟩ : ∃ wq, wq = World.setCell w3 ⟨g, 1, none⟩ (.slice Aw3 (i + 1) cw3) := ⟨_, rfl⟩
      rw [← hwq] at HT3
      rw [← hwq]
      clear hwq
      go_loopw [3] (fun jv wr => ∃ j : Nat, j ≤ 6 ∧ jv = .int .i64 j ∧ ∃ v0 v1 v2, ThreeAt wz g (i + 1) (i + 1) (6 * i + j) (List.replicate (i + 1) 1) (List.replicate (i + 1) 1) (Co.urel (6 * i + j)) v0 v1 v2 wr) (fun j _ => 6 - (intOf j).toNat)
      case atStart => exact ⟨0, Nat.zero_le _, rfl, _, _, _, HT3.out⟩
      case round =>
        clear HT3
        obtain ⟨j, hj6, rfl, p0, p1, p2, hT⟩ := hrel
        have HT := Lib.hid hT
        clear hT
        by_cases hjl : j < 6
        · have k1 : decide ((j : Int) < 6) = true := by simp; omega
          have hgs := HT.out.2.2.2.2.2.2.2.2.2
          have b2 := HT.out.1.2.2
          have hm : (6 * i + j) / 6 = i := by omega
          have hr : (6 * i + j) % 6 = j := by omega
          have hur := Co.urel_succ (6 * i + j)
          rw [hm, hr] at hur
          clear hm hr
          obtain ⟨q, hq⟩ : ∃ q, q = 6 * i + j := ⟨_, rfl⟩
          rw [← hq] at hur HT
          have hq36 : q + 1 ≤ 36 := by omega
          by_cases hij : i = j
          · have e1 : ((i : Int) == (j : Int)) = true := by simp [hij]
            have Hs := Lib.hid (show Co.urel q ++ [0] = Co.urel (q + 1) by rw [hur, if_pos hij])
            have HQ := Lib.hid hq
            clear hur hij hq
            go_wp2_with (at_builtin; refine append_int_at wr rfl _ _ 25 rfl (g + 1) 3 i0 Try.underlying25 Hi.out hz0 hz1 hz2 p2 q (Co.urel q) rfl HT.out.2.2.2.2.1 (by first | (simp; done) | exact (Co.urel_length _).symm) (0) (by first | rfl | (rw [World.size_setCell]; rfl)) (by first | (simp; omega) | (rw [Co.urel_length]; omega)) (by omega) ?_; intro v' w4 hown hgrow hwh; rw [Hs.out, Co.urel_length] at hown; obtain ⟨Aw4, cw4, rfl⟩ := own_slice hown; have mw4 := Three.mid2 HT.out hgrow; have qw4 := (mw4.1 2).trans HT.out.1.2.2; have ew4 := mw4.2 2; have HT4 := Lib.hid (Three.push2 hgz HT.out hown hgrow hwh); skip; clear hown hgrow hwh mw4)
            go_roundw
            case rel => exact ⟨j + 1, by omega, by go_num, _, _, _, by rw [show 6 * i + (j + 1) = q + 1 by rw [HQ.out]; omega]; exact HT4.out⟩
            case measure => simp [intOf]; omega
          · have e1 : ((i : Int) == (j : Int)) = false := by simp; omega
            have Hs := Lib.hid (show Co.urel q ++ [1] = Co.urel (q + 1) by rw [hur, if_neg hij])
            have HQ := Lib.hid hq
            clear hur hij hq
            go_wp2_with (at_builtin; refine append_int_at wr rfl _ _ 25 rfl (g + 1) 3 i0 Try.underlying25 Hi.out hz0 hz1 hz2 p2 q (Co.urel q) rfl HT.out.2.2.2.2.1 (by first | (simp; done) | exact (Co.urel_length _).symm) (1) (by first | rfl | (rw [World.size_setCell]; rfl)) (by first | (simp; omega) | (rw [Co.urel_length]; omega)) (by omega) ?_; intro v' w4 hown hgrow hwh; rw [Hs.out, Co.urel_length] at hown; obtain ⟨Aw4, cw4, rfl⟩ := own_slice hown; have mw4 := Three.mid2 HT.out hgrow; have qw4 := (mw4.1 2).trans HT.out.1.2.2; have ew4 := mw4.2 2; have HT4 := Lib.hid (Three.push2 hgz HT.out hown hgrow hwh); skip; clear hown hgrow hwh mw4)
            go_roundw
            case rel => exact ⟨j + 1, by omega, by go_num, _, _, _, by rw [show 6 * i + (j + 1) = q + 1 by rw [HQ.out]; omega]; exact HT4.out⟩
            case measure => simp [intOf]; omega
        · obtain rfl : j = 6 := by omega
          have k1 : decide (((6 : Nat) : Int) < 6) = false := rfl
          go_wp2
          go_roundw
          case rel => exact ⟨i + 1, by omega, by go_num, p0, p1, p2, by rw [show 6 * (i + 1) = 6 * i + 6 by omega]; exact HT.out⟩
          case measure => simp [intOf]; omega
    · obtain rfl : i = 6 := by omega
      obtain ⟨hb, hf, o0, o1, o2, a01, a02, a12, hB, hgl⟩ := HT.out
      obtain ⟨A0, c0, rfl⟩ := own_slice o0
      obtain ⟨A1, c1, rfl⟩ := own_slice o1
      obtain ⟨A2, c2, rfl⟩ := own_slice o2
      obtain ⟨b0, b1, b2⟩ := hb
      obtain ⟨z0, z1, z2⟩ := HZ.out.1.below hB (by rw [HZS.out]; exact hgw)
      have zf : ∀ off, wr.frozen? ⟨w.heap.size, off, none⟩ = false := fun off => by
        have e := hB.block w.heap.size (by rw [HZS.out]; exact hgw)
        have := HZ.out.2 off
        unfold World.frozen? at this ⊢
        simp only [e]
        exact this
      have f0 := zf 0
      have f1 := zf 1
      have f2 := zf 2
      have k1 : decide (((6 : Nat) : Int) < 6) = false := rfl
      have keep : ∀ (v : Value) (n : Nat) (ys : List Value) (u0 u1 u2 : Value), wr.ownsRow (g + 1) 3 1 v n ys → (((wr.setCell ⟨w.heap.size, 0, none⟩ u0).setCell ⟨w.heap.size, 1, none⟩ u1).setCell ⟨w.heap.size, 2, none⟩ u2).ownsRow w.heap.size 3 1 v n ys := fun _ _ _ _ _ _ k =>
        own_base (own_grown (own_grown (own_grown k (Kit.grown_set _ _ _ _) (fun b hb => by injection hb with hb; omega)) (Kit.grown_set _ _ _ _) (fun b hb => by injection hb with hb; omega)) (Kit.grown_set _ _ _ _) (fun b hb => by injection hb with hb; omega)) (by omega)
      have KP := Lib.hid keep
      have O0 := Lib.hid o0
      have O1 := Lib.hid o1
      have O2 := Lib.hid o2
      have HA := Lib.hid (And.intro a01 (And.intro a02 a12))
      have HBW := Lib.hid (HBZ.out.trans (hB.mono HBZ.out.size))
      clear zf hf o0 o1 o2 a01 a02 a12 hB keep hgl
      go_wp2
      (try simp only [Exit.inBlock, Exit.then])
      refine bodyPost_ret (v := .agg #[.slice A0 6 c0, .slice A1 6 c1, .slice A2 36 c2]) ?_ rfl ?_
      · rw [results_cell1 rfl]
        go_simp
      · have h2 : Co.unit.r.length = 36 := Co.urel_length 36
        refine ⟨A0, A1, A2, c0, c1, c2, by rw [h2]; rfl, KP.out _ _ _ _ _ _ O0.out, KP.out _ _ _ _ _ _ O1.out, by rw [h2]; exact KP.out _ _ _ _ _ _ O2.out, HA.out.1, by rw [h2]; exact HA.out.2.1, by rw [h2]; exact HA.out.2.2, ((HBW.out.setCell (Nat.le_refl _) _).setCell (Nat.le_refl _) _).setCell (Nat.le_refl _) _⟩

end Go.Proofs.Ytnfjdlocmdgefaa
