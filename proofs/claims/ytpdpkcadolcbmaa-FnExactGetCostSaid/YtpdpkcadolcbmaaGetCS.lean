/- Contracts (GetCS). -/
import Derived.Test.YtpdpkcadolcbmaaStepF
import Derived.Test.YtpdpkcadolcbmaaNumS
import Derived.Test.YtpdpkcadolcbmaaOwnB
import Derived.Test.YtpdpkcadolcbmaaCostOkS
import Derived.Test.YtpdpkcadolcbmaaThree2
import Derived.Laws.ResultCell
import Derived.Outline
import Derived.Deep.RegionHeld3
namespace Go.Proofs.Ytpdpkcadolcbmaa
open Go.RowKit
set_option linter.unusedVariables false

theorem info_intGS : (Try.prog.info? 3).map (fun i => (i.zero, i.size, i.bytes)) = some (some (.int .i64 0), 1, 8) := by kernel_rfl
set_option maxHeartbeats 64000000 in
set_option maxRecDepth 100000 in
theorem specGetCost_any (s : ByteArray) (hs : s.size ≤ maxLen) (w : World) :
    Calls Try.prog 34 #[.string s] w (OwnCoB (Co.get s) w) := by
  have hs' : s.size ≤ 9223372036854775807 := hs
  have Hs := Lib.hid hs
  clear hs
  obtain ⟨i0, hi, hz0, hz1, hz2⟩ := info_parts info_intGS
  have Hi := Lib.hid hi
  clear hi
  obtain ⟨G, hG⟩ : ∃ G, G = Zs.getTo 48 s := ⟨_, rfl⟩
  have HG := Lib.hid hG
  clear hG
  obtain ⟨wz, hwz⟩ : ∃ wz, wz = w.alloc (.cells #[.slice none 0 0, .slice none 0 0, .slice none 0 0] 26) := ⟨_, rfl⟩
  have HX := Lib.hid (show Box3 wz w.heap.size (.slice none 0 0) (.slice none 0 0) (.slice none 0 0) by rw [hwz]; exact Box3.made _ _ _ _ _)
  have HF := Lib.hid (show ∀ off, wz.frozen? ⟨w.heap.size, off, none⟩ = false by rw [hwz]; exact fun off => by simp)
  have HBZ := Lib.hid (show Below w.heap.size w wz by rw [hwz]; exact (Below.refl _ _).alloc (Nat.le_refl _) _)
  have HS := Lib.hid (show wz.heap.size = w.heap.size + 1 by rw [hwz]; simp)
  obtain ⟨wl, hwl⟩ : ∃ wl, wl = wz.alloc (.cells #[] 3) := ⟨_, rfl⟩
  have Ho := Lib.hid (show wl.ownsRow wz.heap.size 3 1 (.slice (some ⟨w.heap.size + 1, 0, none⟩) 0 0) 0 (ints []) by rw [← HS.out]; rw [hwl]; exact World.ownsRow_lit (base := wz.heap.size) (e := 3) (size := 1) wz #[] 0 (Nat.le_refl _) (Nat.zero_le _) rfl)
  have HB := Lib.hid (show Below wz.heap.size wz wl by rw [hwl]; exact (Below.refl _ _).alloc (Nat.le_refl _) _)
  go_enter Try.func34, Try.ntmps34
  go_wp2_with fail
  rw [← hwz]
  rw [← hwl]
  clear hwl hwz
  go_loopw [7, 4, 5] (fun iv ov av wr => ∃ (k p : Nat) (acc : List Int), k ≤ 48 ∧ iv = .int .i64 k ∧ av = .int .i64 p ∧ p ≤ s.size ∧ acc.length = k ∧ wr.ownsRow wz.heap.size 3 1 ov k (ints acc) ∧ G = (acc ++ (Zs.getTo (48 - k) (Num.rest s p)).1, (Zs.getTo (48 - k) (Num.rest s p)).2) ∧ Below wz.heap.size wz wr) (fun i _ _ _ => 48 - (intOf i).toNat)
  case atStart => exact ⟨0, 0, [], Nat.zero_le _, rfl, rfl, Nat.zero_le _, rfl, Ho.out, by rw [Num.rest_zero]; exact HG.out, HB.out⟩
  case round =>
    clear Ho HB
    obtain ⟨k, p, acc, hk, rfl, rfl, hp, hlen, hown, hI, hB⟩ := hrel
    have HL := Lib.hid hlen
    have Ho := Lib.hid hown
    have HB := Lib.hid hB
    have HI := Lib.hid hI
    clear hlen hown hB hI
    obtain ⟨A', c', rfl⟩ := own_slice Ho.out
    by_cases hlt : k < 48
    · have k0 : decide ((k : Int) < 48) = true := by simp; omega
      by_cases h1 : Num.rvK (Num.rest s p) = 0
      · have Hf := Lib.hid (show Co.get s = (Co.none, false) from Co.get_few (by rw [← HG.out, HI.out, Zs.getTo_no h1]; simp [HL.out]; omega))
        have h1x := Lib.hid h1
        clear h1
        go_wp2_with fail
        refine (l4Num_no s p hp Hs.out h1x.out _).mono ?_
        rintro e w4 ⟨rfl, hb⟩
        have hzz := HS.out
        have hzr := HB.out.size
        have hb0 := HB.out.trans (hb.mono hzr)
        have HX := Lib.hid (HX.out.below hb0 (by omega))
        have HF := Lib.hid (free_below hb0 (by omega) HF.out)
        have HB := Lib.hid (HBZ.out.trans (hb0.mono HBZ.out.size))
        clear hb hb0 hzz hzr
        obtain ⟨x0, x1, x2⟩ := HX.out
        have f0 := HF.out 0
        have f1 := HF.out 1
        have f2 := HF.out 2
        go_wp2
        (try simp only [Exit.inBlock, Exit.then])
        refine bodyPost_ret (v := .tuple #[.agg #[.slice none 0 0, .slice none 0 0, .slice none 0 0], .bool false]) ?_ rfl ?_
        · rw [results_cell_tmp rfl]
          go_simp
        · rw [Hf.out]
          exact ⟨none, none, none, 0, 0, 0, rfl, OwnC.nil _ _, ((HB.out.setCell (Nat.le_refl _) _).setCell (Nat.le_refl _) _).setCell (Nat.le_refl _) _⟩
      · have h1x := Lib.hid h1
        obtain ⟨p1, hp1⟩ : ∃ p1, p1 = p + Num.rvK (Num.rest s p) := ⟨_, rfl⟩
        have hp1' : p1 ≤ s.size := by
          have := (Num.rvK_le (Num.rest s p)).2
          rw [Num.rest_size] at this
          omega
        have Hp1 := Lib.hid hp1
        have ep1 : decide ((p1 : Int) < 0) = false := by simp
        obtain ⟨V, hV⟩ : ∃ V : Int, V = (Num.rvN (Num.rest s p) : Int) := ⟨_, rfl⟩
        have HV := Lib.hid hV
        have HN := Lib.hid (show G = ((acc ++ [V]) ++ (Zs.getTo (48 - (k + 1)) (Num.rest s p1)).1, (Zs.getTo (48 - (k + 1)) (Num.rest s p1)).2) by
          rw [HI.out, show 48 - k = (48 - (k + 1)) + 1 by omega, Zs.getTo_yes h1, Tr.at_eq hp1, hV]; simp)
        clear h1 hp1 hV
        go_wp2_with fail
        refine (l4Num_yes s p p1 hp Hs.out h1x.out Hp1.out _).mono ?_
        rintro e w4 ⟨rfl, hb⟩
        have Ho := Lib.hid (own_below Ho.out hb)
        have HB := Lib.hid (HB.out.trans (hb.mono HB.out.size))
        clear hb
        rw [← HV.out]
        have hsx := HB.out.size
        go_wp2_with (at_builtin; go_loud (refine append_int w4 rfl _ _ 24 rfl wz.heap.size 3 i0 Try.underlying24 Hi.out hz0 hz1 hz2 (.slice A' k c') k acc rfl Ho.out HL.out.symm V rfl (by rw [HL.out]; omega) hsx ?_); intro v' w6 hown hgrow)
        rw [List.length_append, HL.out] at hown
        have Ho' := Lib.hid hown
        have HB' := Lib.hid ((HB.out.alloc hsx (.cells #[.int .i64 V] 3)).grown hgrow (by simp; omega) (fun b hb => (Ho.out.lt b hb).1))
        clear hown hgrow
        go_wp2
        go_roundw
        case rel => exact ⟨k + 1, p1, acc ++ [V], by omega, by go_num, rfl, hp1', by simp [HL.out], Ho'.out, HN.out, HB'.out⟩
        case measure => simp [intOf]; omega
    · obtain rfl : k = 48 := by omega
      have k0 : decide (((48 : Nat) : Int) < 48) = false := rfl
      have HR := Lib.hid (show G = (acc, Num.rest s p) by rw [HI.out]; simp [Zs.getTo])
      have hc := own_cap Ho.out
      obtain ⟨g, rfl, hg0, hg1⟩ := own_form Ho.out (by omega)
      have HIN := Lib.hid (IntIn.of_own Ho.out)
      have hc0 : (6 : Int) ≤ (c' : Int) := by omega
      have hc1 : (12 : Int) ≤ (c' : Int) := by omega
      have hc2 : (48 : Int) ≤ (c' : Int) := by omega
      have hw0 : IntKind.i64.wrap (2 * 6) = 12 := by decide
      have hw1 : IntKind.i64.wrap 12 = 12 := by decide
      have hm0 : ¬ c' = 0 := by omega
      have hm1 : ¬ c' = 6 := by omega
      have hm2 : ¬ c' = 12 := by omega
      have HP := Lib.hid fun (wq : World) (hq : BelS wr wq) => IntIn.below HIN.out hq
      obtain ⟨D0, eD0⟩ : ∃ D, D = (acc.take (0 + 6)).drop 0 := ⟨_, rfl⟩
      obtain ⟨D1, eD1⟩ : ∃ D, D = (acc.take (6 + 6)).drop 6 := ⟨_, rfl⟩
      obtain ⟨D2, eD2⟩ : ∃ D, D = (acc.take (12 + 36)).drop 12 := ⟨_, rfl⟩
      have HP0 := Lib.hid fun (wq : World) (hq : BelS wr wq) => (show IntIn wq wr.heap.size (some ⟨g, 0, none⟩) 6 D0 from eD0 ▸ IntIn.part (k := 0) (m := 6) (HP.out wq hq) (by decide) (by decide))
      have HP1 := Lib.hid fun (wq : World) (hq : BelS wr wq) => (show IntIn wq wr.heap.size (some ⟨g, 6, none⟩) 6 D1 from eD1 ▸ IntIn.part (k := 6) (m := 6) (HP.out wq hq) (by decide) (by decide))
      have HP2 := Lib.hid fun (wq : World) (hq : BelS wr wq) => (show IntIn wq wr.heap.size (some ⟨g, 12, none⟩) 36 D2 from eD2 ▸ IntIn.part (k := 12) (m := 36) (HP.out wq hq) (by decide) (by decide))
      have HDS := Lib.hid (And.intro eD0 (And.intro eD1 eD2))
      clear eD0 eD1 eD2
      obtain ⟨R, hR⟩ : ∃ R : Act → World → Prop, R = fun a wq => ∃ (j36 j41 j48 : Value) (G0 G1 G2 g10 e0 e1 e2 : Nat), a = ⟨#[Value.string s, undef, .pointer (some ⟨w.heap.size, 0, none⟩), u3, .slice (some ⟨g, 0, none⟩) 48 c', .int .i64 p, .int .i64 6, .int .i64 48, u8, u9, .pointer (some ⟨g10, 0, none⟩), .slice (some ⟨w.heap.size + 1, 0, none⟩) 0 0, .int .i64 48, .int .i64 6, .int .i64 12, .int .i64 6, .int .i64 6, .int .i64 36, .int .i64 48, .bool false, u20, u21, u22, u23, u24, u25, u26, u27, u28, u29, u30, u31, u32, u33, u34, u35, j36, .slice (some ⟨g, 0, none⟩) 48 c', .int .i64 6, .slice (some ⟨g, 0, none⟩) 6 c', .slice (some ⟨G0, 0, none⟩) 6 e0, j41, .slice (some ⟨g, 0, none⟩) 48 c', .int .i64 6, .int .i64 6, .int .i64 12, .slice (some ⟨g, 6, none⟩) 6 (c' - 6), .slice (some ⟨G1, 0, none⟩) 6 e1, j48, .slice (some ⟨g, 0, none⟩) 48 c', .int .i64 6, .int .i64 12, .slice (some ⟨g, 12, none⟩) 36 (c' - 12), .slice (some ⟨G2, 0, none⟩) 36 e2, .agg #[.slice (some ⟨G0, 0, none⟩) 6 e0, .slice (some ⟨G1, 0, none⟩) 6 e1, .slice (some ⟨G2, 0, none⟩) 36 e2], undef, undef, undef, undef, undef, undef, undef, undef, undef, undef, undef], []⟩ ∧ DoneS wr wq D0 D1 D2 g10 G0 G1 G2 e0 e1 e2 := ⟨_, rfl⟩
      have HRI := Lib.hid (show ∀ (j36 j41 j48 : Value) (G0 G1 G2 g10 e0 e1 e2 : Nat) (wq : World), DoneS wr wq D0 D1 D2 g10 G0 G1 G2 e0 e1 e2 → R ⟨#[Value.string s, undef, .pointer (some ⟨w.heap.size, 0, none⟩), u3, .slice (some ⟨g, 0, none⟩) 48 c', .int .i64 p, .int .i64 6, .int .i64 48, u8, u9, .pointer (some ⟨g10, 0, none⟩), .slice (some ⟨w.heap.size + 1, 0, none⟩) 0 0, .int .i64 48, .int .i64 6, .int .i64 12, .int .i64 6, .int .i64 6, .int .i64 36, .int .i64 48, .bool false, u20, u21, u22, u23, u24, u25, u26, u27, u28, u29, u30, u31, u32, u33, u34, u35, j36, .slice (some ⟨g, 0, none⟩) 48 c', .int .i64 6, .slice (some ⟨g, 0, none⟩) 6 c', .slice (some ⟨G0, 0, none⟩) 6 e0, j41, .slice (some ⟨g, 0, none⟩) 48 c', .int .i64 6, .int .i64 6, .int .i64 12, .slice (some ⟨g, 6, none⟩) 6 (c' - 6), .slice (some ⟨G1, 0, none⟩) 6 e1, j48, .slice (some ⟨g, 0, none⟩) 48 c', .int .i64 6, .int .i64 12, .slice (some ⟨g, 12, none⟩) 36 (c' - 12), .slice (some ⟨G2, 0, none⟩) 36 e2, .agg #[.slice (some ⟨G0, 0, none⟩) 6 e0, .slice (some ⟨G1, 0, none⟩) 6 e1, .slice (some ⟨G2, 0, none⟩) 36 e2], undef, undef, undef, undef, undef, undef, undef, undef, undef, undef, undef], []⟩ wq by rw [hR]; exact fun j36 j41 j48 G0 G1 G2 g10 e0 e1 e2 wq h => ⟨j36, j41, j48, G0, G1, G2, g10, e0, e1, e2, rfl, h⟩)
      have HRE := Lib.hid (show ∀ a wq, R a wq → ∃ (j36 j41 j48 : Value) (G0 G1 G2 g10 e0 e1 e2 : Nat), a = ⟨#[Value.string s, undef, .pointer (some ⟨w.heap.size, 0, none⟩), u3, .slice (some ⟨g, 0, none⟩) 48 c', .int .i64 p, .int .i64 6, .int .i64 48, u8, u9, .pointer (some ⟨g10, 0, none⟩), .slice (some ⟨w.heap.size + 1, 0, none⟩) 0 0, .int .i64 48, .int .i64 6, .int .i64 12, .int .i64 6, .int .i64 6, .int .i64 36, .int .i64 48, .bool false, u20, u21, u22, u23, u24, u25, u26, u27, u28, u29, u30, u31, u32, u33, u34, u35, j36, .slice (some ⟨g, 0, none⟩) 48 c', .int .i64 6, .slice (some ⟨g, 0, none⟩) 6 c', .slice (some ⟨G0, 0, none⟩) 6 e0, j41, .slice (some ⟨g, 0, none⟩) 48 c', .int .i64 6, .int .i64 6, .int .i64 12, .slice (some ⟨g, 6, none⟩) 6 (c' - 6), .slice (some ⟨G1, 0, none⟩) 6 e1, j48, .slice (some ⟨g, 0, none⟩) 48 c', .int .i64 6, .int .i64 12, .slice (some ⟨g, 12, none⟩) 36 (c' - 12), .slice (some ⟨G2, 0, none⟩) 36 e2, .agg #[.slice (some ⟨G0, 0, none⟩) 6 e0, .slice (some ⟨G1, 0, none⟩) 6 e1, .slice (some ⟨G2, 0, none⟩) 36 e2], undef, undef, undef, undef, undef, undef, undef, undef, undef, undef, undef], []⟩ ∧ DoneS wr wq D0 D1 D2 g10 G0 G1 G2 e0 e1 e2 by rw [hR]; exact fun a wq h => h)
      clear hR
      go_wp2_with fail
      refine region_cut R ?_ ?_
      rotate_left
      clear HX HF HBZ HS HG HI HL HR Ho HIN HB HDS HRE hs' Hs hp hk hlt k0
      have S0 := Lib.hid (show BelS wr wr.drew from (Below.refl _ _).drew)
      · go_region_held3 (fun wq => BelS wr wq) (first | (with_reducible assumption) | (with_reducible exact S0.out) | (with_reducible refine BelS.alloc_drew ?_ _; with_reducible assumption) | (with_reducible refine BelS.alloc' ?_ _; with_reducible assumption) | (with_reducible exact BelS.alloc' s2 _) | (with_reducible refine BelS.set3 s2 ?_ _ _ _; have := s0.le; have := s1.le; omega)) (first | ((fail_if_success (have := o0)); refine step_append_fresh _ rfl _ _ 24 rfl 3 i0 Try.underlying24 Hi.out hz0 hz1 hz2 _ 6 _ rfl (some ⟨g, 0, none⟩) _ rfl (HP0.out _ (by with_reducible assumption)) (by decide) (by decide) ?_; intro G0 e0 w5 hG0 o0 hg; have hb := (Below.refl _ _).grown hg (Nat.le_refl _) (fun _ hk => by cases hk); have s0 : BelS wr w5 := BelS.on (by with_reducible assumption) hb; (try simp at hG0); have HG0 := Lib.hid hG0; clear hG0; have y0 := (o0.lt G0 rfl).2; (try ((first | (with_reducible have zz0 := Zero3.on (Zero3.drew (Zero3.new rfl)) hg) | (with_reducible have zz0 := Zero3.on (Zero3.drew (Zero3.alloc (Zero3.new rfl) _)) hg) | (with_reducible have zz0 := Zero3.on (Zero3.drew (Zero3.alloc (Zero3.alloc (Zero3.new rfl) _) _)) hg) | (with_reducible have zz0 := Zero3.on (Zero3.drew (Zero3.alloc (Zero3.alloc (Zero3.alloc (Zero3.new rfl) _) _) _)) hg) | (with_reducible have zz0 := Zero3.on (Zero3.drew (Zero3.alloc (Zero3.alloc (Zero3.alloc (Zero3.alloc (Zero3.new rfl) _) _) _) _)) hg)); (try simp only [World.size_alloc] at zz0); (try rw [World.size_drew] at zz0); obtain ⟨zc00, zc01, zc02, zf00, zf01, zf02⟩ := Zero3.cells zz0)); clear hg) | ((fail_if_success (have := o1)); refine step_append_fresh _ rfl _ _ 24 rfl 3 i0 Try.underlying24 Hi.out hz0 hz1 hz2 _ 6 _ rfl (some ⟨g, 6, none⟩) _ rfl (HP1.out _ (by with_reducible assumption)) (by decide) (by decide) ?_; intro G1 e1 w6 hG1 o1 hg; have hb := (Below.refl _ _).grown hg (Nat.le_refl _) (fun _ hk => by cases hk); have s1 : BelS wr w6 := BelS.on (by with_reducible assumption) hb; (try simp at hG1); have HG1 := Lib.hid hG1; clear hG1; have y1 := (o1.lt G1 rfl).2; (first | (with_reducible have o0 := own_below (o0) hb) | (with_reducible have o0 := own_below (World.ownsRow.alloc (o0) _) hb) | (with_reducible have o0 := own_below (World.ownsRow.alloc (World.ownsRow.alloc (o0) _) _) hb) | (with_reducible have o0 := own_below (World.ownsRow.alloc (World.ownsRow.alloc (World.ownsRow.alloc (o0) _) _) _) hb) | (with_reducible have o0 := own_below (World.ownsRow.alloc (World.ownsRow.alloc (World.ownsRow.alloc (World.ownsRow.alloc (o0) _) _) _) _) hb)); (try ((first | (with_reducible have zz1 := Zero3.on (Zero3.new rfl) hg) | (with_reducible have zz1 := Zero3.on (Zero3.alloc (Zero3.new rfl) _) hg) | (with_reducible have zz1 := Zero3.on (Zero3.alloc (Zero3.alloc (Zero3.new rfl) _) _) hg) | (with_reducible have zz1 := Zero3.on (Zero3.alloc (Zero3.alloc (Zero3.alloc (Zero3.new rfl) _) _) _) hg) | (with_reducible have zz1 := Zero3.on (Zero3.alloc (Zero3.alloc (Zero3.alloc (Zero3.alloc (Zero3.new rfl) _) _) _) _) hg) | (with_reducible have zz1 := Zero3.on (zz0) hg) | (with_reducible have zz1 := Zero3.on (Zero3.alloc (zz0) _) hg) | (with_reducible have zz1 := Zero3.on (Zero3.alloc (Zero3.alloc (zz0) _) _) hg) | (with_reducible have zz1 := Zero3.on (Zero3.alloc (Zero3.alloc (Zero3.alloc (zz0) _) _) _) hg)); (try simp only [World.size_alloc] at zz1); (try rw [World.size_drew] at zz1); obtain ⟨zc10, zc11, zc12, zf10, zf11, zf12⟩ := Zero3.cells zz1)); clear hg) | ((fail_if_success (have := o2)); refine step_append_fresh _ rfl _ _ 24 rfl 3 i0 Try.underlying24 Hi.out hz0 hz1 hz2 _ 36 _ rfl (some ⟨g, 12, none⟩) _ rfl (HP2.out _ (by with_reducible assumption)) (by decide) (by decide) ?_; intro G2 e2 w7 hG2 o2 hg; have hb := (Below.refl _ _).grown hg (Nat.le_refl _) (fun _ hk => by cases hk); have s2 : BelS wr w7 := BelS.on (by with_reducible assumption) hb; (try simp at hG2); have HG2 := Lib.hid hG2; clear hG2; have y2 := (o2.lt G2 rfl).2; (first | (with_reducible have o0 := own_below (o0) hb) | (with_reducible have o0 := own_below (World.ownsRow.alloc (o0) _) hb) | (with_reducible have o0 := own_below (World.ownsRow.alloc (World.ownsRow.alloc (o0) _) _) hb) | (with_reducible have o0 := own_below (World.ownsRow.alloc (World.ownsRow.alloc (World.ownsRow.alloc (o0) _) _) _) hb) | (with_reducible have o0 := own_below (World.ownsRow.alloc (World.ownsRow.alloc (World.ownsRow.alloc (World.ownsRow.alloc (o0) _) _) _) _) hb)); (first | (with_reducible have o1 := own_below (o1) hb) | (with_reducible have o1 := own_below (World.ownsRow.alloc (o1) _) hb) | (with_reducible have o1 := own_below (World.ownsRow.alloc (World.ownsRow.alloc (o1) _) _) hb) | (with_reducible have o1 := own_below (World.ownsRow.alloc (World.ownsRow.alloc (World.ownsRow.alloc (o1) _) _) _) hb) | (with_reducible have o1 := own_below (World.ownsRow.alloc (World.ownsRow.alloc (World.ownsRow.alloc (World.ownsRow.alloc (o1) _) _) _) _) hb)); (try ((first | (with_reducible have zz2 := Zero3.on (Zero3.new rfl) hg) | (with_reducible have zz2 := Zero3.on (Zero3.alloc (Zero3.new rfl) _) hg) | (with_reducible have zz2 := Zero3.on (Zero3.alloc (Zero3.alloc (Zero3.new rfl) _) _) hg) | (with_reducible have zz2 := Zero3.on (Zero3.alloc (Zero3.alloc (Zero3.alloc (Zero3.new rfl) _) _) _) hg) | (with_reducible have zz2 := Zero3.on (Zero3.alloc (Zero3.alloc (Zero3.alloc (Zero3.alloc (Zero3.new rfl) _) _) _) _) hg) | (with_reducible have zz2 := Zero3.on (zz1) hg) | (with_reducible have zz2 := Zero3.on (Zero3.alloc (zz1) _) hg) | (with_reducible have zz2 := Zero3.on (Zero3.alloc (Zero3.alloc (zz1) _) _) hg) | (with_reducible have zz2 := Zero3.on (Zero3.alloc (Zero3.alloc (Zero3.alloc (zz1) _) _) _) hg) | (with_reducible have zz2 := Zero3.on (zz0) hg) | (with_reducible have zz2 := Zero3.on (Zero3.alloc (zz0) _) hg) | (with_reducible have zz2 := Zero3.on (Zero3.alloc (Zero3.alloc (zz0) _) _) hg) | (with_reducible have zz2 := Zero3.on (Zero3.alloc (Zero3.alloc (Zero3.alloc (zz0) _) _) _) hg)); (try simp only [World.size_alloc] at zz2); (try rw [World.size_drew] at zz2); obtain ⟨zc20, zc21, zc22, zf20, zf21, zf22⟩ := Zero3.cells zz2)); clear hg))
        all_goals
          with_reducible refine ⟨rfl, ?_⟩
          have l0 := s0.le
          have l1 := s1.le
          have x0 := HG0.out
          have x1 := HG1.out
          have x2 := HG2.out
          first
          | (have hz := DoneS.stored o0 o1 o2 (by omega) s2 zz2 (by omega) (by omega)
             with_reducible exact HRI.out _ _ _ _ _ _ _ _ _ _ _ hz)
          | (have hz := DoneS.made o0 o1 o2 (by omega) s2
             with_reducible exact HRI.out _ _ _ _ _ _ _ _ _ _ _ hz)
      · intro a wq hRa
        obtain ⟨j36, j41, j48, G0, G1, G2, g10, e0, e1, e2, rfl, hbox, o0, o1, o2, hne, hbel, hg10, hgl⟩ := HRE.out a wq hRa
        clear hRa HRE HRI HP HP0 HP1 HP2 HIN Ho hm0 hm1 hm2 hc0 hc1 hc2 hw0 hw1
        have hacc := HL.out
        have hD2 : D2 = acc.drop 12 := by rw [HDS.out.2.2, List.take_of_length_le (by omega)]
        have hD0 : D0 = acc.take 6 := by rw [HDS.out.1]; rfl
        have hD1 : D1 = (acc.take 12).drop 6 := HDS.out.2.1
        have l0 : D0.length = 6 := by rw [hD0, List.length_take]; omega
        have l1 : D1.length = 6 := by rw [hD1, List.length_drop, List.length_take]; omega
        have l2 : D2.length = 36 := by rw [hD2, List.length_drop]; omega
        have HRD := Lib.hid (show Co.read s = (⟨D0, D1, D2⟩, Num.rest s p) by rw [Co.read_cut (by rw [← HG.out]; exact HR.out) hacc, hD0, hD1, hD2])
        have hzs := HS.out
        have hzr := HB.out.size
        have hb0 : Below wz.heap.size wz wq := HB.out.trans (hbel.mono hzr)
        have HX := Lib.hid (HX.out.below hb0 (by omega))
        have HF := Lib.hid (free_below hb0 (by omega) HF.out)
        have HB := Lib.hid (HBZ.out.trans (hb0.mono HBZ.out.size))
        have HC := Lib.hid hbox
        have HO := Lib.hid (show OwnC wq (w.heap.size + 1) (some ⟨G0, 0, none⟩) (some ⟨G1, 0, none⟩) (some ⟨G2, 0, none⟩) e0 e1 e2 ⟨D0, D1, D2⟩ by
          unfold OwnC
          simp only
          rw [l0, l1, l2]
          exact ⟨own_base o0 (by omega), own_base o1 (by omega), own_base o2 (by omega), .inr (by simp [Value.ownBlock]; omega), .inr (by simp [Value.ownBlock]; omega), .inr (by simp [Value.ownBlock]; omega)⟩)
        have HZ := Lib.hid (show w.heap.size < wq.heap.size ∧ g10 < wq.heap.size ∧ ¬ w.heap.size = g10 from ⟨by have := hb0.size; omega, hgl, by omega⟩)
        have HLL := Lib.hid (And.intro l0 (And.intro l1 l2))
        have HQS := Lib.hid (Num.rest_size s p)
        clear hbox o0 o1 o2 hne hbel hg10 hgl hacc hD0 hD1 hD2 l0 l1 l2 hzs hzr hb0 HS HBZ HDS HI HL HR HG hk hlt
        have keep : ∀ (wq : World) (v : Value) (n : Nat) (ys : List Value) (u0 u1 u2 : Value), wq.ownsRow (w.heap.size + 1) 3 1 v n ys → (((wq.setCell ⟨w.heap.size, 0, none⟩ u0).setCell ⟨w.heap.size, 1, none⟩ u1).setCell ⟨w.heap.size, 2, none⟩ u2).ownsRow w.heap.size 3 1 v n ys := fun _ _ _ _ _ _ _ k =>
          own_base (own_grown (own_grown (own_grown k (Kit.grown_set _ _ _ _) (fun b hb => by injection hb with hb; omega)) (Kit.grown_set _ _ _ _) (fun b hb => by injection hb with hb; omega)) (Kit.grown_set _ _ _ _) (fun b hb => by injection hb with hb; omega)) (by omega)
        have KP := Lib.hid keep
        clear keep
        have HIN := Lib.hid (show ∀ (wq : World), OwnC wq (w.heap.size + 1) (some ⟨G0, 0, none⟩) (some ⟨G1, 0, none⟩) (some ⟨G2, 0, none⟩) e0 e1 e2 ⟨D0, D1, D2⟩ → CoIn wq wq.heap.size (some ⟨G0, 0, none⟩) (some ⟨G1, 0, none⟩) (some ⟨G2, 0, none⟩) 6 6 36 ⟨D0, D1, D2⟩ from fun wq h => by
          have h := h.to_in
          simp only at h
          rw [HLL.out.1, HLL.out.2.1, HLL.out.2.2] at h
          exact h)
        by_cases hq : p = s.size
        · have q0 : ((p : Int) != (s.size : Int)) = false := by simp [hq]
          have HQ0 := Lib.hid (show (Num.rest s p).size = 0 by rw [HQS.out]; omega)
          clear hq
          obtain ⟨y0, y1, y2⟩ := HC.out
          go_wp2_with fail
          clear y0 y1 y2 q0
          refine (specCostOk_any _ _ _ _ _ _ _ _ _ ⟨D0, D1, D2⟩ _ (HIN.out _ HO.out) (by decide) (by decide) (by decide)).mono ?_
          rintro e w4 ⟨rfl, hb⟩
          have HO := Lib.hid (HO.out.below hb)
          have HX := Lib.hid (HX.out.below hb HZ.out.1)
          have HC := Lib.hid (HC.out.below hb HZ.out.2.1)
          have HF := Lib.hid (free_below hb HZ.out.1 HF.out)
          have HB := Lib.hid (HB.out.trans (hb.mono HB.out.size))
          clear hb
          obtain ⟨x0, x1, x2⟩ := HX.out
          obtain ⟨y0, y1, y2⟩ := HC.out
          have f0 := HF.out 0
          have f1 := HF.out 1
          have f2 := HF.out 2
          cases hok : Co.ok ⟨D0, D1, D2⟩ with
          | false =>
            have Hf := Lib.hid (show Co.get s = (Co.none, false) from Co.get_bad (by rw [HRD.out]; exact hok))
            clear hok
            go_wp2
            refine bodyPost_ret (v := .tuple #[.agg #[.slice none 0 0, .slice none 0 0, .slice none 0 0], .bool false]) ?_ rfl ?_
            · rw [results_cell_tmp rfl]
              go_simp
            · rw [Hf.out]
              exact ⟨none, none, none, 0, 0, 0, rfl, OwnC.nil _ _, ((HB.out.setCell (Nat.le_refl _) _).setCell (Nat.le_refl _) _).setCell (Nat.le_refl _) _⟩
          | true =>
            have Hf := Lib.hid (show Co.get s = (⟨D0, D1, D2⟩, true) by rw [Co.get_yes (by rw [HRD.out]; exact HQ0.out) (by rw [HRD.out]; exact hok), HRD.out])
            have HNE := Lib.hid HZ.out.2.2
            clear hok
            go_wp2
            refine bodyPost_ret (v := .tuple #[.agg #[.slice (some ⟨G0, 0, none⟩) 6 e0, .slice (some ⟨G1, 0, none⟩) 6 e1, .slice (some ⟨G2, 0, none⟩) 36 e2], .bool true]) ?_ rfl ?_
            · rw [results_cell_tmp rfl]
              go_simp
            · rw [Hf.out]
              unfold OwnCoB OwnC
              simp only
              have ho := HO.out
              unfold OwnC at ho
              simp only at ho
              rw [HLL.out.1, HLL.out.2.1, HLL.out.2.2] at ho ⊢
              exact ⟨_, _, _, e0, e1, e2, rfl, ⟨KP.out _ _ _ _ _ _ _ ho.1, KP.out _ _ _ _ _ _ _ ho.2.1, KP.out _ _ _ _ _ _ _ ho.2.2.1, ho.2.2.2⟩, ((HB.out.setCell (Nat.le_refl _) _).setCell (Nat.le_refl _) _).setCell (Nat.le_refl _) _⟩
        · have q0 : ((p : Int) != (s.size : Int)) = true := by simp; omega
          have Hf := Lib.hid (show Co.get s = (Co.none, false) from Co.get_left (by rw [HRD.out]; simp only; rw [HQS.out]; omega))
          clear hq
          obtain ⟨x0, x1, x2⟩ := HX.out
          have f0 := HF.out 0
          have f1 := HF.out 1
          have f2 := HF.out 2
          go_wp2
          refine bodyPost_ret (v := .tuple #[.agg #[.slice none 0 0, .slice none 0 0, .slice none 0 0], .bool false]) ?_ rfl ?_
          · rw [results_cell_tmp rfl]
            go_simp
          · rw [Hf.out]
            exact ⟨none, none, none, 0, 0, 0, rfl, OwnC.nil _ _, ((HB.out.setCell (Nat.le_refl _) _).setCell (Nat.le_refl _) _).setCell (Nat.le_refl _) _⟩


end Go.Proofs.Ytpdpkcadolcbmaa
