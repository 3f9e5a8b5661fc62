/- Texts of one claim laid into one file, in build order: SzC, Three2, ToIS, ToCo, CoSm, HarB, IntH, HarC, CoX, HarE, NdTo, NdSm, NdEq, NdM, ExTreeDists, NdOpen, CoOpen. -/
import Derived.Test.YtajplmopdipbnaaMg7
import Derived.Below
import Derived.ChangeArms
import Derived.ChangeSlices
import Derived.Deep.RegionHeld3
import Derived.Deep.SlicePairs
import Derived.Laws.Entries
import Derived.Laws.MakeOwn
import Derived.Lib.SmallJoins
import Derived.Outline
import Derived.StillTailTactics
import Derived.Test.YtajplmopdipbnaaRows
import Derived.WideShapes
/- Contracts (SzC). -/
namespace Go.Proofs.Ytajplmopdipbnaa
open Go.RowKit
set_option linter.unusedVariables false

set_option maxHeartbeats 400000 in
theorem szIntS_any (A : Option Addr) (n c : Nat) (left : Int) (w : World) (hn : n ≤ 9223372036854775807) (h0 : 0 ≤ left) (h1 : left ≤ 1048576) :
    Calls Try.prog 80 #[.slice A n c, .int .i64 left] w fun e w' => e = .returned (.int .i64 (if (n : Int) ≤ left then left - n else -1)) ∧ w = w' := by
  by_cases h : (n : Int) ≤ left
  · rw [if_pos h]
    go_enter Try.func80, Try.ntmps80
    go_wp2
    go_ret
    exact ⟨rfl, rfl⟩
  · rw [if_neg h]
    go_enter Try.func80, Try.ntmps80
    go_wp2
    go_ret
    exact ⟨rfl, rfl⟩
set_option maxHeartbeats 1600000 in
set_option maxRecDepth 100000 in
theorem szCost_any (A0 A1 A2 : Option Addr) (n0 n1 n2 c0 c1 c2 : Nat) (left : Int) (w : World) (l0 : n0 ≤ 9223372036854775807) (l1 : n1 ≤ 9223372036854775807) (l2 : n2 ≤ 9223372036854775807) (h0 : 0 ≤ left) (h1 : left ≤ 1048576) :
    Calls Try.prog 41 #[.agg #[.slice A0 n0 c0, .slice A1 n1 c1, .slice A2 n2 c2], .int .i64 left] w fun e w' => e = .returned (.int .i64 (if (n0 : Int) + n1 + n2 ≤ left then left - (n0 + n1 + n2 : Nat) else -1)) ∧ Below w.heap.size w w' := by
  have HB := Lib.hid ((Below.refl w.heap.size w).alloc (Nat.le_refl _) (.cells #[.slice A0 n0 c0, .slice A1 n1 c1, .slice A2 n2 c2] 47))
  by_cases q0 : (n0 : Int) ≤ left
  · by_cases q1 : (n1 : Int) ≤ left - n0
    · by_cases q2 : (n2 : Int) ≤ left - n0 - n1
      · rw [if_pos (by omega)]
        go_enter Try.func41, Try.ntmps41
        go_wp2_with fail
        refine (szIntS_any _ _ _ (left) _ l0 h0 h1).mono ?_
        rintro e w' ⟨rfl, rfl⟩
        rw [if_pos (by omega)]
        go_wp2_with fail
        refine (szIntS_any _ _ _ (left - n0) _ l1 (by omega) (by omega)).mono ?_
        rintro e w' ⟨rfl, rfl⟩
        rw [if_pos (by omega)]
        go_wp2_with fail
        refine (szIntS_any _ _ _ (left - n0 - n1) _ l2 (by omega) (by omega)).mono ?_
        rintro e w' ⟨rfl, rfl⟩
        rw [if_pos (by omega)]
        go_wp2
        go_ret
        exact ⟨Kit.ret_int (by omega), HB.out⟩
      · rw [if_neg (by omega)]
        go_enter Try.func41, Try.ntmps41
        go_wp2_with fail
        refine (szIntS_any _ _ _ (left) _ l0 h0 h1).mono ?_
        rintro e w' ⟨rfl, rfl⟩
        rw [if_pos (by omega)]
        go_wp2_with fail
        refine (szIntS_any _ _ _ (left - n0) _ l1 (by omega) (by omega)).mono ?_
        rintro e w' ⟨rfl, rfl⟩
        rw [if_pos (by omega)]
        go_wp2_with fail
        refine (szIntS_any _ _ _ (left - n0 - n1) _ l2 (by omega) (by omega)).mono ?_
        rintro e w' ⟨rfl, rfl⟩
        rw [if_neg (by omega)]
        go_wp2
        go_ret
        exact ⟨rfl, HB.out⟩
    · rw [if_neg (by omega)]
      go_enter Try.func41, Try.ntmps41
      go_wp2_with fail
      refine (szIntS_any _ _ _ (left) _ l0 h0 h1).mono ?_
      rintro e w' ⟨rfl, rfl⟩
      rw [if_pos (by omega)]
      go_wp2_with fail
      refine (szIntS_any _ _ _ (left - n0) _ l1 (by omega) (by omega)).mono ?_
      rintro e w' ⟨rfl, rfl⟩
      rw [if_neg (by omega)]
      go_wp2
      go_ret
      exact ⟨rfl, HB.out⟩
  · rw [if_neg (by omega)]
    go_enter Try.func41, Try.ntmps41
    go_wp2_with fail
    refine (szIntS_any _ _ _ (left) _ l0 h0 h1).mono ?_
    rintro e w' ⟨rfl, rfl⟩
    rw [if_neg (by omega)]
    go_wp2
    go_ret
    exact ⟨rfl, HB.out⟩

end Go.Proofs.Ytajplmopdipbnaa

/- Contracts (Three2). -/
namespace Go.Proofs.Ytajplmopdipbnaa
open Go.RowKit
set_option linter.unusedVariables false

theorem Apart.of_new {v v' : Value} {w w' : World} {base size n n' : Nat} {e e' : TypeId} {ys ys' : List Value} (h : w.ownsRow base e size v n ys) (h' : w'.ownsRow w.heap.size e' size v' n' ys') : Apart v v' := by
  rcases hb : v.ownBlock with _ | g
  · exact .inl hb
  · refine .inr fun e => ?_
    have h1 := (h.lt g hb).2
    rw [hb] at e
    have h2 := (h'.lt g e.symm).1
    omega
theorem Three.put0 {w0 w w' : World} {g n0 n1 n2 n' : Nat} {L0 L1 L2 L' : List Int} {v0 v1 v2 v' : Value} (hg : w0.heap.size ≤ g) (h : ThreeAt w0 g n0 n1 n2 L0 L1 L2 v0 v1 v2 w)
    (hb : Below w.heap.size w w') (hown : w'.ownsRow w.heap.size 3 1 v' n' (ints L')) :
    ThreeAt w0 g n' n1 n2 L' L1 L2 v' v1 v2 (w'.setCell ⟨g, 0, none⟩ v') := by
  obtain ⟨hx, hf, o0, o1, o2, a01, a02, a12, hB, hgl⟩ := h
  have hgw : g < w'.heap.size := by have := hb.size; omega
  have hgs := Kit.grown_set w' g 0 v'
  have keep : ∀ {v : Value} {n : Nat} {ys : List Value}, w'.ownsRow (g + 1) 3 1 v n ys → (w'.setCell ⟨g, 0, none⟩ v').ownsRow (g + 1) 3 1 v n ys := fun k => own_grown k hgs (fun b hb => by injection hb with hb; omega)
  obtain ⟨b0, b1, b2⟩ := hx.below hb hgl
  refine ⟨⟨?_, ?_, ?_⟩, fun off => ?_, ?_, ?_, ?_, (Apart.of_new o1 hown).symm, (Apart.of_new o2 hown).symm, a12, (hB.trans (hb.mono hB.size)).setCell (by exact hg) _, by simpa using hgw⟩
  · exact World.cell?_setCell_same' _ _ _ (by rw [b0]; rfl)
  · rw [World.cell?_setCell_other _ _ _ _ (fun e => by injection e with e1 e2; omega)]; exact b1
  · rw [World.cell?_setCell_other _ _ _ _ (fun e => by injection e with e1 e2; omega)]; exact b2
  · rw [World.frozen?_setCell]
    have e := hb.block g hgl
    have := hf off
    unfold World.frozen? at this ⊢
    simp only [e]
    exact this
  · exact keep (own_base hown (by omega))
  · exact keep (own_below o1 hb)
  · exact keep (own_below o2 hb)
theorem Three.put1 {w0 w w' : World} {g n0 n1 n2 n' : Nat} {L0 L1 L2 L' : List Int} {v0 v1 v2 v' : Value} (hg : w0.heap.size ≤ g) (h : ThreeAt w0 g n0 n1 n2 L0 L1 L2 v0 v1 v2 w)
    (hb : Below w.heap.size w w') (hown : w'.ownsRow w.heap.size 3 1 v' n' (ints L')) :
    ThreeAt w0 g n0 n' n2 L0 L' L2 v0 v' v2 (w'.setCell ⟨g, 1, none⟩ v') := by
  obtain ⟨hx, hf, o0, o1, o2, a01, a02, a12, hB, hgl⟩ := h
  have hgw : g < w'.heap.size := by have := hb.size; omega
  have hgs := Kit.grown_set w' g 1 v'
  have keep : ∀ {v : Value} {n : Nat} {ys : List Value}, w'.ownsRow (g + 1) 3 1 v n ys → (w'.setCell ⟨g, 1, none⟩ v').ownsRow (g + 1) 3 1 v n ys := fun k => own_grown k hgs (fun b hb => by injection hb with hb; omega)
  obtain ⟨b0, b1, b2⟩ := hx.below hb hgl
  refine ⟨⟨?_, ?_, ?_⟩, fun off => ?_, ?_, ?_, ?_, (Apart.of_new o0 hown), a02, (Apart.of_new o2 hown).symm, (hB.trans (hb.mono hB.size)).setCell (by exact hg) _, by simpa using hgw⟩
  · rw [World.cell?_setCell_other _ _ _ _ (fun e => by injection e with e1 e2; omega)]; exact b0
  · exact World.cell?_setCell_same' _ _ _ (by rw [b1]; rfl)
  · rw [World.cell?_setCell_other _ _ _ _ (fun e => by injection e with e1 e2; omega)]; exact b2
  · rw [World.frozen?_setCell]
    have e := hb.block g hgl
    have := hf off
    unfold World.frozen? at this ⊢
    simp only [e]
    exact this
  · exact keep (own_below o0 hb)
  · exact keep (own_base hown (by omega))
  · exact keep (own_below o2 hb)
theorem Three.put2 {w0 w w' : World} {g n0 n1 n2 n' : Nat} {L0 L1 L2 L' : List Int} {v0 v1 v2 v' : Value} (hg : w0.heap.size ≤ g) (h : ThreeAt w0 g n0 n1 n2 L0 L1 L2 v0 v1 v2 w)
    (hb : Below w.heap.size w w') (hown : w'.ownsRow w.heap.size 3 1 v' n' (ints L')) :
    ThreeAt w0 g n0 n1 n' L0 L1 L' v0 v1 v' (w'.setCell ⟨g, 2, none⟩ v') := by
  obtain ⟨hx, hf, o0, o1, o2, a01, a02, a12, hB, hgl⟩ := h
  have hgw : g < w'.heap.size := by have := hb.size; omega
  have hgs := Kit.grown_set w' g 2 v'
  have keep : ∀ {v : Value} {n : Nat} {ys : List Value}, w'.ownsRow (g + 1) 3 1 v n ys → (w'.setCell ⟨g, 2, none⟩ v').ownsRow (g + 1) 3 1 v n ys := fun k => own_grown k hgs (fun b hb => by injection hb with hb; omega)
  obtain ⟨b0, b1, b2⟩ := hx.below hb hgl
  refine ⟨⟨?_, ?_, ?_⟩, fun off => ?_, ?_, ?_, ?_, a01, (Apart.of_new o0 hown), (Apart.of_new o1 hown), (hB.trans (hb.mono hB.size)).setCell (by exact hg) _, by simpa using hgw⟩
  · rw [World.cell?_setCell_other _ _ _ _ (fun e => by injection e with e1 e2; omega)]; exact b0
  · rw [World.cell?_setCell_other _ _ _ _ (fun e => by injection e with e1 e2; omega)]; exact b1
  · exact World.cell?_setCell_same' _ _ _ (by rw [b2]; rfl)
  · rw [World.frozen?_setCell]
    have e := hb.block g hgl
    have := hf off
    unfold World.frozen? at this ⊢
    simp only [e]
    exact this
  · exact keep (own_below o0 hb)
  · exact keep (own_below o1 hb)
  · exact keep (own_base hown (by omega))

end Go.Proofs.Ytajplmopdipbnaa

/- Contracts (ToIS). -/
namespace Go.Proofs.Ytajplmopdipbnaa
open Go.RowKit
set_option linter.unusedVariables false

set_option maxHeartbeats 1600000 in
set_option maxRecDepth 100000 in
theorem toIntS_any (A : Option Addr) (n c : Nat) (zs : List Int) (w : World) (h : IntIn w w.heap.size A n zs) (hn : n ≤ 1048576) :
    Calls Try.prog 82 #[.slice A n c] w fun e w' => e = .returned (.slice (some ⟨w.heap.size, 0, none⟩) n n) ∧ w'.ownsRow w.heap.size 3 1 (.slice (some ⟨w.heap.size, 0, none⟩) n n) n (ints zs) ∧ Below w.heap.size w w' := by
  have H := Lib.hid h
  have HL := Lib.hid h.1
  clear h
  obtain ⟨i0, hi, hz0, hz1, hz2⟩ := info_parts info_intZ
  have Hi := Lib.hid hi
  clear hi
  have HZ0 := Lib.hid (show List.replicate n (0 : Int) = Zs.part zs 0 by rw [Zs.part_zero, HL.out])
  go_enter Try.func82, Try.ntmps82
  go_wp2_with (at_make; go_loud (refine wpList_make_full _ rfl _ _ 25 rfl w.heap.size 3 i0 (.int .i64 0) 1 Try.underlying25 Hi.out hz0 hz1 _ _ _ _ n rfl rfl rfl rfl (by rw [hz2]; omega) (by unfold maxLen; omega) (Nat.le_refl _) ?_); intro w2 hown2 hgrow2)
  have hb2 : Below w.heap.size w w2 := (Below.refl _ w).grown hgrow2 (Nat.le_refl _) (fun _ h => by cases h)
  rw [made_zeros 0 n, HZ0.out] at hown2
  have HO2 := Lib.hid hown2
  have HB2 := Lib.hid hb2
  clear hown2 hgrow2 hb2
  go_wp2
  go_loopw [4] (fun iv wr => ∃ k : Nat, k ≤ n ∧ iv = .int .i64 k ∧ wr.ownsRow w.heap.size 3 1 (.slice (some ⟨w.heap.size, 0, none⟩) n n) n (ints (Zs.part zs k)) ∧ Below w.heap.size w wr) (fun i _ => n - (intOf i).toNat)
  case atStart => exact ⟨0, Nat.zero_le _, rfl, HO2.out, HB2.out⟩
  case round =>
    clear HO2 HB2
    obtain ⟨k, hk, rfl, hown, hB⟩ := hrel
    have Ho := Lib.hid hown
    have HB := Lib.hid hB
    clear hown hB
    by_cases hlt : k < n
    · obtain ⟨ad, rfl, _, c1⟩ := (H.out.below HB.out).at_ hlt
      have c0 := own_int Ho.out (k := k) (by rw [Zs.part_length zs k (by rw [HL.out]; exact hk), HL.out]; exact hlt)
      have f0 := Ho.out.frozenAt k
      have b2 : (0 : Int) ≤ (k : Int) := by omega
      have b3 : (k : Int) < (n : Int) := by omega
      go_wp2
      go_roundw
      case rel =>
        refine ⟨k + 1, by omega, by go_num, ?_, HB.out.setCell (Nat.le_refl _) _⟩
        have := (Ho.out.stored k (.int .i64 (Zs.at zs k))).1
        rw [ints_set, Zs.part_set zs k (by rw [HL.out]; exact hlt)] at this
        exact this
      case measure => simp [intOf]; omega
    · obtain rfl : k = n := by omega
      rw [show Zs.part zs k = zs by rw [← HL.out]; exact Zs.part_all zs] at Ho
      go_wp2
      go_ret
      exact ⟨rfl, Ho.out, HB.out⟩
/-- the like, where the answer lies left open -/
theorem toIntS_own (A : Option Addr) (n c : Nat) (zs : List Int) (w : World) (h : IntIn w w.heap.size A n zs) (hn : n ≤ 1048576) :
    Calls Try.prog 82 #[.slice A n c] w fun e w' => ∃ A' c', e = .returned (.slice A' n c') ∧ w'.ownsRow w.heap.size 3 1 (.slice A' n c') n (ints zs) ∧ Below w.heap.size w w' :=
  (toIntS_any A n c zs w h hn).mono fun _ _ ⟨h1, h2, h3⟩ => ⟨_, _, h1, h2, h3⟩

end Go.Proofs.Ytajplmopdipbnaa

/- Contracts (ToCo). -/
namespace Go.Proofs.Ytajplmopdipbnaa
open Go.RowKit
set_option linter.unusedVariables false

theorem info_intT : (Try.prog.info? 3).map (fun i => (i.zero, i.size, i.bytes)) = some (some (.int .i64 0), 1, 8) := by kernel_rfl
set_option maxHeartbeats 1600000 in
set_option maxRecDepth 100000 in
theorem toCost_any (A0 A1 A2 : Option Addr) (n0 n1 n2 c0 c1 c2 : Nat) (k : Co) (w : World) (h : CoIn w w.heap.size A0 A1 A2 n0 n1 n2 k) (h0 : n0 ≤ 1048576) (h1 : n1 ≤ 1048576) (h2 : n2 ≤ 1048576) :
    Calls Try.prog 44 #[.agg #[.slice A0 n0 c0, .slice A1 n1 c1, .slice A2 n2 c2]] w (OwnCo k w) := by
  have H := Lib.hid h
  have HL := Lib.hid h.len
  clear h
  obtain ⟨o1, ho1⟩ : ∃ o, o = Obj.cells #[.slice A0 n0 c0, .slice A1 n1 c1, .slice A2 n2 c2] 47 := ⟨_, rfl⟩
  obtain ⟨o2, ho2⟩ : ∃ o, o = Obj.cells #[.slice none 0 0, .slice none 0 0, .slice none 0 0] 27 := ⟨_, rfl⟩
  obtain ⟨s, hs⟩ : ∃ s, s = w.heap.size := ⟨_, rfl⟩
  have s1 : (w.alloc o1).heap.size = s + 1 := by rw [hs]; simp
  have s2 : ((w.alloc o1).alloc o2).heap.size = s + 2 := by rw [hs]; simp
  have hb1 := (Below.refl w.heap.size w).alloc (Nat.le_refl _) o1
  have hb2 := hb1.alloc hb1.size o2
  have hx0 : Box3 (w.alloc o1) s (.slice A0 n0 c0) (.slice A1 n1 c1) (.slice A2 n2 c2) := by rw [ho1, hs]; exact Box3.made _ _ _ _ _
  have hz0 : Box3 ((w.alloc o1).alloc o2) (s + 1) (.slice none 0 0) (.slice none 0 0) (.slice none 0 0) := by rw [← s1, ho2]; exact Box3.made _ _ _ _ _
  have hzf : ∀ off, ((w.alloc o1).alloc o2).frozen? ⟨s + 1, off, none⟩ = false := by rw [← s1, ho2]; exact Box3.free _ _ _ _ _
  have hT : ThreeAt ((w.alloc o1).alloc o2) (s + 2) 0 0 0 [] [] [] (.slice none 0 0) (.slice none 0 0) (.slice none 0 0) (((w.alloc o1).alloc o2).alloc o2) := by
    have := Three.new ((w.alloc o1).alloc o2) 27
    rw [← ho2, s2] at this
    exact this
  have hb3 : Below (s + 2) ((w.alloc o1).alloc o2) (((w.alloc o1).alloc o2).alloc o2) := by have := (Below.refl ((w.alloc o1).alloc o2).heap.size ((w.alloc o1).alloc o2)).alloc (Nat.le_refl _) o2; rw [s2] at this; exact this
  have HX := Lib.hid (hx0.alloc (by omega) o2)
  have HZ := Lib.hid hz0
  have HZF := Lib.hid hzf
  have HT := Lib.hid hT
  have HB2 := Lib.hid hb2
  have S2 := Lib.hid s2
  have hyb := ((hx0.alloc (by omega) o2).below hb3 (by omega)).1
  obtain ⟨wz, hwz⟩ : ∃ wz, wz = (w.alloc o1).alloc o2 := ⟨_, rfl⟩
  obtain ⟨wy, hwy⟩ : ∃ wy, wy = wz.alloc o2 := ⟨_, rfl⟩
  rw [← hwz] at HX HZ HZF HT HB2 S2 hyb
  rw [← hwy] at HT hyb
  have hgz : wz.heap.size ≤ s + 2 := by have := S2.out; omega
  clear hx0 hz0 hzf hT hb3 hb1 hb2 s1 s2
  subst ho1
  subst ho2
  have HSZ := Lib.hid hs
  clear hs
  go_enter Try.func44, Try.ntmps44
  have hB := HT.out.2.2.2.2.2.2.2.2.1
  have hgl := HT.out.2.2.2.2.2.2.2.2.2
  have HC := Lib.hid ((H.out.below (HB2.out.trans (hB.mono HB2.out.size))).more (HB2.out.trans (hB.mono HB2.out.size)).size)
  go_wp2_with fail
  rw [← hwz, ← hwy, ← HSZ.out, show s + 1 + 1 = s + 2 from rfl]
  refine (toIntS_own _ _ _ k.d _ HC.out.1 h0).mono ?_
  rintro e w1 ⟨B0, b0, rfl, ho, hb⟩
  have d0 := (HT.out.1.below hb hgl).1
  have e0 := free_below hb hgl HT.out.2.1 0
  have b := (HX.out.below (hB.trans (hb.mono hB.size)) (by rw [S2.out]; omega)).2.1
  have HT := Lib.hid (Three.put0 hgz HT.out hb ho)
  clear HC hB hgl ho hb
  clear hyb hwy hwz
  have hB := HT.out.2.2.2.2.2.2.2.2.1
  have hgl := HT.out.2.2.2.2.2.2.2.2.2
  have HC := Lib.hid ((H.out.below (HB2.out.trans (hB.mono HB2.out.size))).more (HB2.out.trans (hB.mono HB2.out.size)).size)
  go_wp2_with fail
  refine (toIntS_own _ _ _ k.i _ HC.out.2.1 h1).mono ?_
  rintro e w2 ⟨B1, b1, rfl, ho, hb⟩
  have d1 := (HT.out.1.below hb hgl).2.1
  have e1 := free_below hb hgl HT.out.2.1 1
  have b := (HX.out.below (hB.trans (hb.mono hB.size)) (by rw [S2.out]; omega)).2.2
  have HT := Lib.hid (Three.put1 hgz HT.out hb ho)
  clear HC hB hgl ho hb
  have hB := HT.out.2.2.2.2.2.2.2.2.1
  have hgl := HT.out.2.2.2.2.2.2.2.2.2
  have HC := Lib.hid ((H.out.below (HB2.out.trans (hB.mono HB2.out.size))).more (HB2.out.trans (hB.mono HB2.out.size)).size)
  go_wp2_with fail
  refine (toIntS_own _ _ _ k.r _ HC.out.2.2 h2).mono ?_
  rintro e w3 ⟨B2, b2, rfl, ho, hb⟩
  have d2 := (HT.out.1.below hb hgl).2.2
  have e2 := free_below hb hgl HT.out.2.1 2
  have d0 := (HT.out.1.below hb hgl).1
  have d1 := (HT.out.1.below hb hgl).2.1
  have z := HZ.out.below (hB.trans (hb.mono hB.size)) (by rw [S2.out]; omega)
  have z0 := z.1
  have z1 := z.2.1
  have z2 := z.2.2
  have zf := free_below (hB.trans (hb.mono hB.size)) (by rw [S2.out]; omega) HZF.out
  have f0 := zf 0
  have f1 := zf 1
  have f2 := zf 2
  clear z zf
  have HT := Lib.hid (Three.put2 hgz HT.out hb ho)
  clear HC hB hgl ho hb
  go_wp2
  refine bodyPost_ret (v := .agg #[.slice B0 n0 b0, .slice B1 n1 b1, .slice B2 n2 b2]) ?_ rfl ?_
  · rw [results_cell1 rfl]
    go_simp
  · have hs := HSZ.out
    have ho := Three.out (s := s + 1) (base := w.heap.size) (u0 := .slice B0 n0 b0) (u1 := .slice B1 n1 b1) (u2 := .slice B2 n2 b2) HT.out (by omega) (by omega)
    have hB := HT.out.2.2.2.2.2.2.2.2.1
    have hb := HB2.out.trans (hB.mono HB2.out.size)
    unfold OwnCo
    rw [HL.out.1, HL.out.2.1, HL.out.2.2]
    exact ⟨B0, B1, B2, b0, b1, b2, rfl, ho.1, ho.2.1, ho.2.2.1, ho.2.2.2.1, ho.2.2.2.2.1, ho.2.2.2.2.2, ((hb.setCell (p := ⟨s + 1, 0, none⟩) (by simp only; omega) _).setCell (p := ⟨s + 1, 1, none⟩) (by simp only; omega) _).setCell (p := ⟨s + 1, 2, none⟩) (by simp only; omega) _⟩

end Go.Proofs.Ytajplmopdipbnaa

/- Contracts (CoSm). -/
namespace Go.Proofs.Ytajplmopdipbnaa
open Go.RowKit
set_option linter.unusedVariables false

def Co.same (a b : Co) : Bool := decide (a.d = b.d) && decide (a.i = b.i) && decide (a.r = b.r)

end Go.Proofs.Ytajplmopdipbnaa

/- Contracts (HarB). -/
namespace Go.Proofs.Ytajplmopdipbnaa
open Go.RowKit
set_option linter.unusedVariables false

/-- three rows of the call's own, apart -/
def OwnC (w : World) (base : Nat) (A0 A1 A2 : Option Addr) (c0 c1 c2 : Nat) (k : Co) : Prop :=
  w.ownsRow base 3 1 (.slice A0 k.d.length c0) k.d.length (ints k.d) ∧ w.ownsRow base 3 1 (.slice A1 k.i.length c1) k.i.length (ints k.i) ∧ w.ownsRow base 3 1 (.slice A2 k.r.length c2) k.r.length (ints k.r) ∧
  Apart (.slice A0 k.d.length c0) (.slice A1 k.i.length c1) ∧ Apart (.slice A0 k.d.length c0) (.slice A2 k.r.length c2) ∧ Apart (.slice A1 k.i.length c1) (.slice A2 k.r.length c2)
theorem OwnC.to_in {w : World} {base : Nat} {A0 A1 A2 : Option Addr} {c0 c1 c2 : Nat} {k : Co} (h : OwnC w base A0 A1 A2 c0 c1 c2 k) : CoIn w w.heap.size A0 A1 A2 k.d.length k.i.length k.r.length k := ⟨IntIn.of_own h.1, IntIn.of_own h.2.1, IntIn.of_own h.2.2.1⟩
theorem OwnC.below {w w' : World} {base : Nat} {A0 A1 A2 : Option Addr} {c0 c1 c2 : Nat} {k : Co} (h : OwnC w base A0 A1 A2 c0 c1 c2 k) (hb : Below w.heap.size w w') : OwnC w' base A0 A1 A2 c0 c1 c2 k :=
  ⟨own_below h.1 hb, own_below h.2.1 hb, own_below h.2.2.1 hb, h.2.2.2⟩
/-- the old blocks but those of three rows stand as they did -/
def Only3 (v0 v1 v2 : Value) (w w' : World) : Prop := ∀ i, i < w.heap.size → v0.ownBlock ≠ some i → v1.ownBlock ≠ some i → v2.ownBlock ≠ some i → w'.heap[i]? = w.heap[i]?
theorem OwnC.lt {w : World} {base : Nat} {A0 A1 A2 : Option Addr} {c0 c1 c2 : Nat} {k : Co} (h : OwnC w base A0 A1 A2 c0 c1 c2 k) {s : Nat} (hs : w.heap.size ≤ s) :
    (Value.slice A0 k.d.length c0).ownBlock ≠ some s ∧ (Value.slice A1 k.i.length c1).ownBlock ≠ some s ∧ (Value.slice A2 k.r.length c2).ownBlock ≠ some s :=
  ⟨fun e => by have := (h.1.lt s e).2; omega, fun e => by have := (h.2.1.lt s e).2; omega, fun e => by have := (h.2.2.1.lt s e).2; omega⟩
theorem Box3.only {w w' : World} {g : Nat} {u0 u1 u2 v0 v1 v2 : Value} (h : Box3 w g v0 v1 v2) (ho : Only3 u0 u1 u2 w w') (hl : g < w.heap.size) (hn : u0.ownBlock ≠ some g ∧ u1.ownBlock ≠ some g ∧ u2.ownBlock ≠ some g) : Box3 w' g v0 v1 v2 := by
  have e := ho g hl hn.1 hn.2.1 hn.2.2
  exact ⟨(World.cell?_of_block (a := ⟨g, 0, none⟩) e).trans h.1, (World.cell?_of_block (a := ⟨g, 1, none⟩) e).trans h.2.1, (World.cell?_of_block (a := ⟨g, 2, none⟩) e).trans h.2.2⟩
def Co.marks (k0 : Int) (k : Co) : Co := ⟨Zs.marks k0 k.d.length, Zs.marks (k0 + k.d.length) k.i.length, Zs.marks (k0 + k.d.length + k.i.length) k.r.length⟩
theorem Co.marks_d (k0 : Int) (k : Co) : (Co.marks k0 k).d.length = k.d.length := Zs.marks_length _ _
theorem Co.marks_i (k0 : Int) (k : Co) : (Co.marks k0 k).i.length = k.i.length := Zs.marks_length _ _
theorem Co.marks_r (k0 : Int) (k : Co) : (Co.marks k0 k).r.length = k.r.length := Zs.marks_length _ _
theorem Box3.grown {w w' : World} {g : Nat} {r : Option Nat} {v0 v1 v2 : Value} (h : Box3 w g v0 v1 v2) (hg : w.grownBy w' r) (hl : g < w.heap.size) (hr : ∀ b, r = some b → b ≠ g) : Box3 w' g v0 v1 v2 := by
  have e := hg.block g hl (fun e => hr g e.symm rfl)
  exact ⟨(World.cell?_of_block (a := ⟨g, 0, none⟩) e).trans h.1, (World.cell?_of_block (a := ⟨g, 1, none⟩) e).trans h.2.1, (World.cell?_of_block (a := ⟨g, 2, none⟩) e).trans h.2.2⟩

end Go.Proofs.Ytajplmopdipbnaa

/- Contracts (IntH). -/
namespace Go.Proofs.Ytajplmopdipbnaa
open Go.RowKit
set_option linter.unusedVariables false

set_option maxHeartbeats 800000 in
set_option maxRecDepth 100000 in
theorem eqIntS_any (A A' : Option Addr) (n c n' c' : Nat) (xs ys : List Int) (w : World) (h : IntIn w w.heap.size A n xs) (h' : IntIn w w.heap.size A' n' ys) (hn : n ≤ 1048576) (hn' : n' ≤ 1048576) :
    Calls Try.prog 45 #[.slice A n c, .slice A' n' c'] w fun e w' => e = .returned (.bool (decide (xs = ys))) ∧ Below w.heap.size w w' := by
  have H := Lib.hid h
  have H' := Lib.hid h'
  clear h h'
  have HL := Lib.hid H.out.1
  have HL' := Lib.hid H'.out.1
  by_cases hnn : n = n'
  · go_enter Try.func45, Try.ntmps45
    have Hnn := Lib.hid hnn
    have hne : ((n : Int) != (n' : Int)) = false := by simp [hnn]
    clear hnn
    go_wp2
    go_loopw [5] (fun iv wr => ∃ k : Nat, k ≤ n ∧ iv = .int .i64 k ∧ (∀ j, j < k → Zs.at xs j = Zs.at ys j) ∧ Drawn w wr) (fun i _ => n - (intOf i).toNat)
    case atStart => exact ⟨0, by omega, rfl, fun j hj => absurd hj (by omega), Drawn.refl _⟩
    case round =>
      obtain ⟨k, hk, rfl, hsm, hD⟩ := hrel
      have Hsm := Lib.hid hsm
      clear hsm
      by_cases hlt : k < n
      · obtain ⟨ad, rfl, hb, hl⟩ := (H.out.drawn hD).at_ hlt
        obtain ⟨ad', rfl, hb', hl'⟩ := (H'.out.drawn hD).at_ (k := k) (by rw [← Hnn.out]; exact hlt)
        have hlt' : (k : Int) < (n' : Int) := by rw [← Hnn.out]; omega
        have hk0 : (0 : Int) ≤ (k : Int) := by omega
        by_cases hq1 : Zs.at xs k = Zs.at ys k
        · have Hq := Lib.hid hq1
          have q1 : (Zs.at xs k != Zs.at ys k) = false := by simpa using hq1
          clear hq1
          go_wp2
          go_quiet (fail)
          go_wp2
          go_roundw
          case rel => exact ⟨k + 1, by omega, by go_num, fun j hj => by
            rcases Nat.lt_succ_iff_lt_or_eq.1 hj with h' | rfl
            · exact Hsm.out j h'
            · exact Hq.out, hD.drewN _⟩
          case measure => simp [intOf]; omega
        · have Hq := Lib.hid hq1
          have q1 : (Zs.at xs k != Zs.at ys k) = true := by simpa using hq1
          clear hq1
          go_wp2
          go_quiet (fail)
          go_wp2
          go_ret
          refine ⟨Kit.ret_bool ?_, (hD.drewN _).toBelow⟩
          symm
          rw [decide_eq_false_iff_not]
          rintro rfl
          exact Hq.out rfl
      · obtain rfl : k = n := by omega
        go_wp2
        go_ret
        refine ⟨Kit.ret_bool ?_, hD.toBelow⟩
        symm
        rw [decide_eq_true_eq]
        exact Zs.ext (by rw [HL.out, HL'.out]; exact Hnn.out) (fun j hj => Hsm.out j (by rw [← HL.out]; exact hj))
  · have hne : ((n : Int) != (n' : Int)) = true := by simp; omega
    have Hq := Lib.hid (show decide (xs = ys) = false by
      rw [decide_eq_false_iff_not]; rintro rfl; exact hnn (HL.out.symm.trans HL'.out))
    clear hnn
    go_enter Try.func45, Try.ntmps45
    go_wp2
    go_ret
    exact ⟨Kit.ret_bool Hq.out.symm, Below.refl _ _⟩

set_option maxHeartbeats 800000 in
set_option maxRecDepth 100000 in
theorem markIntS_any (A : Option Addr) (n c base : Nat) (e0 : TypeId) (k0 : Int) (zs : List Int) (w : World) (h : w.ownsRow base e0 1 (.slice A n c) n (ints zs)) (hn : n ≤ 1048576) (h0 : 0 ≤ k0) (h1 : k0 ≤ 1073741824) :
    Calls Try.prog 50 #[.slice A n c, .int .i64 k0] w fun e w' => e = .returned (.int .i64 (k0 + n)) ∧ w'.ownsRow base e0 1 (.slice A n c) n (ints (Zs.marks k0 n)) ∧ w.grownBy w' (Value.ownBlock (.slice A n c)) := by
  have H := Lib.hid h
  have HL := Lib.hid (show zs.length = n by have := h.1; rw [ints_length] at this; omega)
  clear h
  go_enter Try.func50, Try.ntmps50
  go_wp2
  go_loopw [5, 1] (fun iv kv wr => ∃ j : Nat, j ≤ n ∧ iv = .int .i64 j ∧ kv = .int .i64 (k0 + j) ∧ wr.ownsRow base e0 1 (.slice A n c) n (ints (Zs.marked k0 zs j)) ∧ w.grownBy wr (Value.ownBlock (.slice A n c))) (fun i _ _ => n - (intOf i).toNat)
  case atStart => exact ⟨0, by omega, rfl, by simp, by simpa [Zs.marked, Zs.marks] using H.out, World.grownBy.refl _ _⟩
  case round =>
    obtain ⟨j, hj, rfl, rfl, hown, hgr⟩ := hrel
    by_cases hlt : j < n
    · obtain ⟨g, rfl, hg⟩ := own_form hown (by omega)
      have Ho := Lib.hid hown
      have Hg := Lib.hid hgr
      have c0 := own_int hown (k := j) (by rw [Zs.marked_length _ _ _ (by rw [HL.out]; omega), HL.out]; exact hlt)
      have f0 := hown.frozenAt j
      clear hown hgr hg
      go_wp2
      go_roundw
      case rel =>
        refine ⟨j + 1, by omega, by go_num, by go_num, ?_, grown_tr Hg.out (Ho.out.stored _ _).2⟩
        have := (Ho.out.stored j (.int .i64 (k0 + (j : Nat)))).1
        rw [ints_set, Zs.marked_set _ _ _ (by rw [HL.out]; exact hlt)] at this
        exact this
      case measure => simp [intOf]; omega
    · obtain rfl : j = n := by omega
      have Ho := Lib.hid hown
      have Hg := Lib.hid hgr
      clear hown hgr
      go_wp2
      go_ret
      refine ⟨rfl, ?_, Hg.out⟩
      have := Ho.out
      rw [← HL.out, Zs.marked_all, HL.out] at this
      exact this

set_option maxHeartbeats 800000 in
set_option maxRecDepth 100000 in
theorem heldIntS_any (A : Option Addr) (n c base : Nat) (e0 : TypeId) (k0 : Int) (w : World) (h : w.ownsRow base e0 1 (.slice A n c) n (ints (Zs.marks k0 n))) (hn : n ≤ 1048576) (h0 : 0 ≤ k0) (h1 : k0 ≤ 1073741824) :
    Calls Try.prog 51 #[.slice A n c, .int .i64 k0] w fun e w' => e = .returned (.int .i64 (k0 + n)) ∧ w = w' := by
  have H := Lib.hid h
  clear h
  go_enter Try.func51, Try.ntmps51
  go_wp2
  go_loop [5, 1] (fun iv kv => ∃ j : Nat, j ≤ n ∧ iv = .int .i64 j ∧ kv = .int .i64 (k0 + j)) (fun i _ => n - (intOf i).toNat)
  case atStart => exact ⟨0, by omega, rfl, by simp⟩
  case round =>
    obtain ⟨j, hj, rfl, rfl⟩ := hrel
    by_cases hlt : j < n
    · obtain ⟨g, rfl, hg⟩ := own_form H.out (by omega)
      have c0 := own_int H.out (k := j) (by rw [Zs.marks_length]; exact hlt)
      rw [Zs.marks_at _ _ _ hlt] at c0
      clear hg
      go_wp2
      go_round
      case rel => exact ⟨j + 1, by omega, by go_num, by go_num⟩
      case measure => simp [intOf]; omega
    · obtain rfl : j = n := by omega
      go_wp2
      go_ret
      exact ⟨rfl, rfl⟩


end Go.Proofs.Ytajplmopdipbnaa

/- Contracts (HarC). -/
namespace Go.Proofs.Ytajplmopdipbnaa
open Go.RowKit
set_option linter.unusedVariables false

set_option maxHeartbeats 1600000 in
set_option maxRecDepth 100000 in
theorem eqCost_any (A0 A1 A2 : Option Addr) (n0 n1 n2 c0 c1 c2 : Nat) (k : Co) (B0 B1 B2 : Option Addr) (m0 m1 m2 d0 d1 d2 : Nat) (l : Co) (w : World) (h : CoIn w w.heap.size A0 A1 A2 n0 n1 n2 k) (h' : CoIn w w.heap.size B0 B1 B2 m0 m1 m2 l)
    (h0 : n0 ≤ 1048576) (h1 : n1 ≤ 1048576) (h2 : n2 ≤ 1048576) (l0 : m0 ≤ 1048576) (l1 : m1 ≤ 1048576) (l2 : m2 ≤ 1048576) :
    Calls Try.prog 47 #[.agg #[.slice A0 n0 c0, .slice A1 n1 c1, .slice A2 n2 c2], .agg #[.slice B0 m0 d0, .slice B1 m1 d1, .slice B2 m2 d2]] w fun e w' => e = .returned (.bool (Co.same k l)) ∧ Below w.heap.size w w' := by
  have H := Lib.hid h
  have H' := Lib.hid h'
  clear h h'
  obtain ⟨o1, ho1⟩ : ∃ o, o = Obj.cells #[.slice A0 n0 c0, .slice A1 n1 c1, .slice A2 n2 c2] 27 := ⟨_, rfl⟩
  obtain ⟨o2, ho2⟩ : ∃ o, o = Obj.cells #[.slice B0 m0 d0, .slice B1 m1 d1, .slice B2 m2 d2] 27 := ⟨_, rfl⟩
  have hba := (Below.refl w.heap.size w).alloc (Nat.le_refl _) o1
  have HB := Lib.hid (hba.alloc hba.size o2)
  have hlt : w.heap.size < (w.alloc o1).heap.size := by simp
  have GL := Lib.hid (show w.heap.size < ((w.alloc o1).alloc o2).heap.size ∧ w.heap.size + 1 < ((w.alloc o1).alloc o2).heap.size by simp; omega)
  have GA := Lib.hid ((show Box3 (w.alloc o1) w.heap.size (.slice A0 n0 c0) (.slice A1 n1 c1) (.slice A2 n2 c2) by rw [ho1]; exact Box3.made _ _ _ _ _).alloc hlt o2)
  have GB := Lib.hid (show Box3 ((w.alloc o1).alloc o2) (w.alloc o1).heap.size (.slice B0 m0 d0) (.slice B1 m1 d1) (.slice B2 m2 d2) by rw [ho2]; exact Box3.made _ _ _ _ _)
  have hs1 : (w.alloc o1).heap.size = w.heap.size + 1 := by simp
  rw [hs1] at GB
  clear hba hlt hs1
  subst ho1
  subst ho2
  have HA := Lib.hid (H.out.to_below HB.out)
  have HA' := Lib.hid (H'.out.to_below HB.out)
  cases e0 : decide (k.d = l.d) with
  | false =>
    have Hf := Lib.hid (show Co.same k l = false by unfold Co.same; rw [e0]; rfl)
    have E0 := Lib.hid e0
    clear e0
    go_enter Try.func47, Try.ntmps47
    obtain ⟨g0, g1, g2⟩ := GA.out
    obtain ⟨g3, g4, g5⟩ := GB.out
    go_wp2_with fail
    clear g0 g1 g2 g3 g4 g5
    refine (eqIntS_any _ _ _ _ _ _ k.d l.d _ HA.out.1 HA'.out.1 h0 l0).mono ?_
    rintro e w1 ⟨rfl, hd⟩
    have HB := Lib.hid (HB.out.trans (hd.mono HB.out.size))
    have GA := Lib.hid (GA.out.below hd (GL.out.1))
    have GB := Lib.hid (GB.out.below hd (GL.out.2))
    have HA := Lib.hid (HA.out.to_below hd)
    have HA' := Lib.hid (HA'.out.to_below hd)
    have GL := Lib.hid (And.intro (Nat.lt_of_lt_of_le GL.out.1 hd.size) (Nat.lt_of_lt_of_le GL.out.2 hd.size))
    clear hd
    rw [E0.out]
    go_wp2
    go_ret
    exact ⟨Kit.ret_bool Hf.out.symm, HB.out⟩
  | true =>
    cases e1 : decide (k.i = l.i) with
    | false =>
      have Hf := Lib.hid (show Co.same k l = false by unfold Co.same; rw [e0, e1]; rfl)
      have E0 := Lib.hid e0
      have E1 := Lib.hid e1
      clear e0 e1
      go_enter Try.func47, Try.ntmps47
      obtain ⟨g0, g1, g2⟩ := GA.out
      obtain ⟨g3, g4, g5⟩ := GB.out
      go_wp2_with fail
      clear g0 g1 g2 g3 g4 g5
      refine (eqIntS_any _ _ _ _ _ _ k.d l.d _ HA.out.1 HA'.out.1 h0 l0).mono ?_
      rintro e w1 ⟨rfl, hd⟩
      have HB := Lib.hid (HB.out.trans (hd.mono HB.out.size))
      have GA := Lib.hid (GA.out.below hd (GL.out.1))
      have GB := Lib.hid (GB.out.below hd (GL.out.2))
      have HA := Lib.hid (HA.out.to_below hd)
      have HA' := Lib.hid (HA'.out.to_below hd)
      have GL := Lib.hid (And.intro (Nat.lt_of_lt_of_le GL.out.1 hd.size) (Nat.lt_of_lt_of_le GL.out.2 hd.size))
      clear hd
      rw [E0.out]
      obtain ⟨g0, g1, g2⟩ := GA.out
      obtain ⟨g3, g4, g5⟩ := GB.out
      go_wp2_with fail
      clear g0 g1 g2 g3 g4 g5
      refine (eqIntS_any _ _ _ _ _ _ k.i l.i _ HA.out.2.1 HA'.out.2.1 h1 l1).mono ?_
      rintro e w2 ⟨rfl, hd⟩
      have HB := Lib.hid (HB.out.trans (hd.mono HB.out.size))
      have GA := Lib.hid (GA.out.below hd (GL.out.1))
      have GB := Lib.hid (GB.out.below hd (GL.out.2))
      have HA := Lib.hid (HA.out.to_below hd)
      have HA' := Lib.hid (HA'.out.to_below hd)
      have GL := Lib.hid (And.intro (Nat.lt_of_lt_of_le GL.out.1 hd.size) (Nat.lt_of_lt_of_le GL.out.2 hd.size))
      clear hd
      rw [E1.out]
      go_wp2
      go_ret
      exact ⟨Kit.ret_bool Hf.out.symm, HB.out⟩
    | true =>
      cases e2 : decide (k.r = l.r) with
      | false =>
        have Hf := Lib.hid (show Co.same k l = false by unfold Co.same; rw [e0, e1, e2]; rfl)
        have E0 := Lib.hid e0
        have E1 := Lib.hid e1
        have E2 := Lib.hid e2
        clear e0 e1 e2
        go_enter Try.func47, Try.ntmps47
        obtain ⟨g0, g1, g2⟩ := GA.out
        obtain ⟨g3, g4, g5⟩ := GB.out
        go_wp2_with fail
        clear g0 g1 g2 g3 g4 g5
        refine (eqIntS_any _ _ _ _ _ _ k.d l.d _ HA.out.1 HA'.out.1 h0 l0).mono ?_
        rintro e w1 ⟨rfl, hd⟩
        have HB := Lib.hid (HB.out.trans (hd.mono HB.out.size))
        have GA := Lib.hid (GA.out.below hd (GL.out.1))
        have GB := Lib.hid (GB.out.below hd (GL.out.2))
        have HA := Lib.hid (HA.out.to_below hd)
        have HA' := Lib.hid (HA'.out.to_below hd)
        have GL := Lib.hid (And.intro (Nat.lt_of_lt_of_le GL.out.1 hd.size) (Nat.lt_of_lt_of_le GL.out.2 hd.size))
        clear hd
        rw [E0.out]
        obtain ⟨g0, g1, g2⟩ := GA.out
        obtain ⟨g3, g4, g5⟩ := GB.out
        go_wp2_with fail
        clear g0 g1 g2 g3 g4 g5
        refine (eqIntS_any _ _ _ _ _ _ k.i l.i _ HA.out.2.1 HA'.out.2.1 h1 l1).mono ?_
        rintro e w2 ⟨rfl, hd⟩
        have HB := Lib.hid (HB.out.trans (hd.mono HB.out.size))
        have GA := Lib.hid (GA.out.below hd (GL.out.1))
        have GB := Lib.hid (GB.out.below hd (GL.out.2))
        have HA := Lib.hid (HA.out.to_below hd)
        have HA' := Lib.hid (HA'.out.to_below hd)
        have GL := Lib.hid (And.intro (Nat.lt_of_lt_of_le GL.out.1 hd.size) (Nat.lt_of_lt_of_le GL.out.2 hd.size))
        clear hd
        rw [E1.out]
        obtain ⟨g0, g1, g2⟩ := GA.out
        obtain ⟨g3, g4, g5⟩ := GB.out
        go_wp2_with fail
        clear g0 g1 g2 g3 g4 g5
        refine (eqIntS_any _ _ _ _ _ _ k.r l.r _ HA.out.2.2 HA'.out.2.2 h2 l2).mono ?_
        rintro e w3 ⟨rfl, hd⟩
        have HB := Lib.hid (HB.out.trans (hd.mono HB.out.size))
        have GA := Lib.hid (GA.out.below hd (GL.out.1))
        have GB := Lib.hid (GB.out.below hd (GL.out.2))
        have HA := Lib.hid (HA.out.to_below hd)
        have HA' := Lib.hid (HA'.out.to_below hd)
        have GL := Lib.hid (And.intro (Nat.lt_of_lt_of_le GL.out.1 hd.size) (Nat.lt_of_lt_of_le GL.out.2 hd.size))
        clear hd
        rw [E2.out]
        go_wp2
        go_ret
        exact ⟨Kit.ret_bool Hf.out.symm, HB.out⟩
      | true =>
        have Hf := Lib.hid (show Co.same k l = true by unfold Co.same; rw [e0, e1, e2]; rfl)
        have E0 := Lib.hid e0
        have E1 := Lib.hid e1
        have E2 := Lib.hid e2
        clear e0 e1 e2
        go_enter Try.func47, Try.ntmps47
        obtain ⟨g0, g1, g2⟩ := GA.out
        obtain ⟨g3, g4, g5⟩ := GB.out
        go_wp2_with fail
        clear g0 g1 g2 g3 g4 g5
        refine (eqIntS_any _ _ _ _ _ _ k.d l.d _ HA.out.1 HA'.out.1 h0 l0).mono ?_
        rintro e w1 ⟨rfl, hd⟩
        have HB := Lib.hid (HB.out.trans (hd.mono HB.out.size))
        have GA := Lib.hid (GA.out.below hd (GL.out.1))
        have GB := Lib.hid (GB.out.below hd (GL.out.2))
        have HA := Lib.hid (HA.out.to_below hd)
        have HA' := Lib.hid (HA'.out.to_below hd)
        have GL := Lib.hid (And.intro (Nat.lt_of_lt_of_le GL.out.1 hd.size) (Nat.lt_of_lt_of_le GL.out.2 hd.size))
        clear hd
        rw [E0.out]
        obtain ⟨g0, g1, g2⟩ := GA.out
        obtain ⟨g3, g4, g5⟩ := GB.out
        go_wp2_with fail
        clear g0 g1 g2 g3 g4 g5
        refine (eqIntS_any _ _ _ _ _ _ k.i l.i _ HA.out.2.1 HA'.out.2.1 h1 l1).mono ?_
        rintro e w2 ⟨rfl, hd⟩
        have HB := Lib.hid (HB.out.trans (hd.mono HB.out.size))
        have GA := Lib.hid (GA.out.below hd (GL.out.1))
        have GB := Lib.hid (GB.out.below hd (GL.out.2))
        have HA := Lib.hid (HA.out.to_below hd)
        have HA' := Lib.hid (HA'.out.to_below hd)
        have GL := Lib.hid (And.intro (Nat.lt_of_lt_of_le GL.out.1 hd.size) (Nat.lt_of_lt_of_le GL.out.2 hd.size))
        clear hd
        rw [E1.out]
        obtain ⟨g0, g1, g2⟩ := GA.out
        obtain ⟨g3, g4, g5⟩ := GB.out
        go_wp2_with fail
        clear g0 g1 g2 g3 g4 g5
        refine (eqIntS_any _ _ _ _ _ _ k.r l.r _ HA.out.2.2 HA'.out.2.2 h2 l2).mono ?_
        rintro e w3 ⟨rfl, hd⟩
        have HB := Lib.hid (HB.out.trans (hd.mono HB.out.size))
        have GA := Lib.hid (GA.out.below hd (GL.out.1))
        have GB := Lib.hid (GB.out.below hd (GL.out.2))
        have HA := Lib.hid (HA.out.to_below hd)
        have HA' := Lib.hid (HA'.out.to_below hd)
        have GL := Lib.hid (And.intro (Nat.lt_of_lt_of_le GL.out.1 hd.size) (Nat.lt_of_lt_of_le GL.out.2 hd.size))
        clear hd
        rw [E2.out]
        go_wp2
        go_ret
        exact ⟨Kit.ret_bool Hf.out.symm, HB.out⟩
set_option maxHeartbeats 1600000 in
set_option maxRecDepth 100000 in
theorem markCost_any (A0 A1 A2 : Option Addr) (c0 c1 c2 base : Nat) (k0 : Int) (k : Co) (w : World) (h : OwnC w base A0 A1 A2 c0 c1 c2 k) (hb : base ≤ w.heap.size) (l0 : k.d.length ≤ 1048576) (l1 : k.i.length ≤ 1048576) (l2 : k.r.length ≤ 1048576) (h0 : 0 ≤ k0) (h1 : k0 ≤ 1000000000) :
    Calls Try.prog 49 #[.agg #[.slice A0 k.d.length c0, .slice A1 k.i.length c1, .slice A2 k.r.length c2], .int .i64 k0] w fun e w' => e = .returned (.int .i64 (k0 + k.d.length + k.i.length + k.r.length)) ∧ OwnC w' base A0 A1 A2 c0 c1 c2 (Co.marks k0 k) ∧ Below base w w' ∧ w.heap.size ≤ w'.heap.size ∧ Only3 (.slice A0 k.d.length c0) (.slice A1 k.i.length c1) (.slice A2 k.r.length c2) w w' := by
  obtain ⟨o0, o1, o2, a01, a02, a12⟩ := h
  obtain ⟨wa, hwa⟩ : ∃ wa, wa = w.alloc (.cells #[.slice A0 k.d.length c0, .slice A1 k.i.length c1, .slice A2 k.r.length c2] 27) := ⟨_, rfl⟩
  have HX := Lib.hid (show Box3 wa w.heap.size (.slice A0 k.d.length c0) (.slice A1 k.i.length c1) (.slice A2 k.r.length c2) by rw [hwa]; exact Box3.made _ _ _ _ _)
  have HSL := Lib.hid (show w.heap.size < wa.heap.size by rw [hwa]; simp)
  have HBW := Lib.hid (show Below base w wa by rw [hwa]; exact (Below.refl _ _).alloc hb _)
  have hl : ∀ (v : Value) (n : Nat) (ys : List Value), w.ownsRow base 3 1 v n ys → ∀ b, v.ownBlock = some b → b ≠ w.heap.size := fun v n ys ho b hb => by have := (ho.lt b hb).2; omega
  have HL := Lib.hid (And.intro (hl _ _ _ o0) (And.intro (hl _ _ _ o1) (hl _ _ _ o2)))
  have HO := Lib.hid (show wa.ownsRow base 3 1 (.slice A0 k.d.length c0) k.d.length (ints k.d) ∧ wa.ownsRow base 3 1 (.slice A1 k.i.length c1) k.i.length (ints k.i) ∧ wa.ownsRow base 3 1 (.slice A2 k.r.length c2) k.r.length (ints k.r) by
    rw [hwa]; exact ⟨o0.alloc _, o1.alloc _, o2.alloc _⟩)
  have HAP := Lib.hid (And.intro a01 (And.intro a02 a12))
  have HSW := Lib.hid (show base ≤ wa.heap.size ∧ w.heap.size ≤ wa.heap.size by rw [hwa]; simp; omega)
  have HON := Lib.hid (show Only3 (.slice A0 k.d.length c0) (.slice A1 k.i.length c1) (.slice A2 k.r.length c2) w wa by rw [hwa]; exact fun i hi _ _ _ => Below.heap_alloc w _ i hi)
  clear o0 o1 o2 a01 a02 a12 hl hb
  obtain ⟨N0, hN0⟩ : ∃ N0 : Int, N0 = (k.d.length : Int) := ⟨_, rfl⟩
  obtain ⟨N1, hN1⟩ : ∃ N1 : Int, N1 = (k.i.length : Int) := ⟨_, rfl⟩
  go_enter Try.func49, Try.ntmps49
  go_wp2_with fail
  rw [← hwa]
  refine (markIntS_any A0 _ c0 base _ k0 k.d _ HO.out.1 l0 h0 (by omega)).mono ?_
  rintro e w1 ⟨rfl, ho, hg⟩
  have HX := Lib.hid (HX.out.grown hg HSL.out HL.out.1)
  have HON := Lib.hid (show Only3 _ _ _ w _ from fun i hi h1 h2 h3 => (hg.block i (Nat.lt_of_lt_of_le hi HSW.out.2) (fun e => h1 e.symm)).trans (HON.out i hi h1 h2 h3))
  have HBW := Lib.hid (own_below_of HBW.out HO.out.1 hg (Nat.le_refl _) HSW.out.1)
  have HO := Lib.hid (And.intro ho (And.intro (World.ownsRow.kept HO.out.2.1 hg HAP.out.1.symm) (World.ownsRow.kept HO.out.2.2 hg HAP.out.2.1.symm)))
  have HSL := Lib.hid (Nat.lt_of_lt_of_le HSL.out hg.size)
  have HSW := Lib.hid (And.intro (Nat.le_trans HSW.out.1 hg.size) (Nat.le_trans HSW.out.2 hg.size))
  clear ho hg
  have g0 := HX.out.2.1
  go_wp2_with fail
  clear g0
  refine (markIntS_any A1 _ c1 base _ (k0 + k.d.length) k.i _ HO.out.2.1 l1 (by omega) (by omega)).mono ?_
  rintro e w2 ⟨rfl, ho, hg⟩
  have HX := Lib.hid (HX.out.grown hg HSL.out HL.out.2.1)
  have HON := Lib.hid (show Only3 _ _ _ w _ from fun i hi h1 h2 h3 => (hg.block i (Nat.lt_of_lt_of_le hi HSW.out.2) (fun e => h2 e.symm)).trans (HON.out i hi h1 h2 h3))
  have HBW := Lib.hid (own_below_of HBW.out HO.out.2.1 hg (Nat.le_refl _) HSW.out.1)
  have HO := Lib.hid (And.intro (World.ownsRow.kept HO.out.1 hg HAP.out.1) (And.intro ho (World.ownsRow.kept HO.out.2.2 hg HAP.out.2.2.symm)))
  have HSL := Lib.hid (Nat.lt_of_lt_of_le HSL.out hg.size)
  have HSW := Lib.hid (And.intro (Nat.le_trans HSW.out.1 hg.size) (Nat.le_trans HSW.out.2 hg.size))
  clear ho hg
  have g0 := HX.out.2.2
  go_wp2_with fail
  clear g0
  refine (markIntS_any A2 _ c2 base _ (k0 + k.d.length + k.i.length) k.r _ HO.out.2.2 l2 (by omega) (by omega)).mono ?_
  rintro e w3 ⟨rfl, ho, hg⟩
  have HON := Lib.hid (show Only3 _ _ _ w _ from fun i hi h1 h2 h3 => (hg.block i (Nat.lt_of_lt_of_le hi HSW.out.2) (fun e => h3 e.symm)).trans (HON.out i hi h1 h2 h3))
  have HBW := Lib.hid (own_below_of HBW.out HO.out.2.2 hg (Nat.le_refl _) HSW.out.1)
  have HO := Lib.hid (And.intro (World.ownsRow.kept HO.out.1 hg HAP.out.2.1) (And.intro (World.ownsRow.kept HO.out.2.1 hg HAP.out.2.2) ho))
  have HSW := Lib.hid (And.intro (Nat.le_trans HSW.out.1 hg.size) (Nat.le_trans HSW.out.2 hg.size))
  clear ho hg
  go_wp2
  go_ret
  refine ⟨rfl, ?_, HBW.out, HSW.out.2, HON.out⟩
  unfold OwnC
  rw [Co.marks_d, Co.marks_i, Co.marks_r]
  exact ⟨HO.out.1, HO.out.2.1, HO.out.2.2, HAP.out⟩

end Go.Proofs.Ytajplmopdipbnaa

/- Contracts (CoX). -/
namespace Go.Proofs.Ytajplmopdipbnaa
open Go.RowKit
set_option linter.unusedVariables false

/-- two variables of three cells each stand as they did; the world has only grown -/
def SixG (w0 : World) (s t : Nat) (wq : World) : Prop := Below w0.heap.size w0 wq ∧ s < w0.heap.size ∧ t < w0.heap.size
theorem six_keep {w0 wx wq : World} {s t : Nat} {a0 a1 a2 b0 b1 b2 : Option Value} (hS : wx.cell? ⟨s, 0, none⟩ = a0 ∧ wx.cell? ⟨s, 1, none⟩ = a1 ∧ wx.cell? ⟨s, 2, none⟩ = a2 ∧ wx.cell? ⟨t, 0, none⟩ = b0 ∧ wx.cell? ⟨t, 1, none⟩ = b1 ∧ wx.cell? ⟨t, 2, none⟩ = b2 ∧ SixG w0 s t wx)
    (hb : Below wx.heap.size wx wq) : wq.cell? ⟨s, 0, none⟩ = a0 ∧ wq.cell? ⟨s, 1, none⟩ = a1 ∧ wq.cell? ⟨s, 2, none⟩ = a2 ∧ wq.cell? ⟨t, 0, none⟩ = b0 ∧ wq.cell? ⟨t, 1, none⟩ = b1 ∧ wq.cell? ⟨t, 2, none⟩ = b2 ∧ SixG w0 s t wq := by
  obtain ⟨h0, h1, h2, k0, k1, k2, hB, hs, ht⟩ := hS
  have hz := hB.size
  have c (u o : Nat) (hu : u < w0.heap.size) : wq.cell? ⟨u, o, none⟩ = wx.cell? ⟨u, o, none⟩ := hb.cell (p := ⟨u, o, none⟩) (by simp only; omega)
  exact ⟨by rw [c s 0 hs, h0], by rw [c s 1 hs, h1], by rw [c s 2 hs, h2], by rw [c t 0 ht, k0], by rw [c t 1 ht, k1], by rw [c t 2 ht, k2], hB.trans (hb.mono hz), hs, ht⟩
theorem six_below {w0 wx : World} {s t : Nat} {a0 a1 a2 b0 b1 b2 : Option Value} (hS : wx.cell? ⟨s, 0, none⟩ = a0 ∧ wx.cell? ⟨s, 1, none⟩ = a1 ∧ wx.cell? ⟨s, 2, none⟩ = a2 ∧ wx.cell? ⟨t, 0, none⟩ = b0 ∧ wx.cell? ⟨t, 1, none⟩ = b1 ∧ wx.cell? ⟨t, 2, none⟩ = b2 ∧ SixG w0 s t wx) : Below w0.heap.size w0 wx := hS.2.2.2.2.2.2.1
theorem Co.same_self (k : Co) : Co.same k k = true := by simp [Co.same]

end Go.Proofs.Ytajplmopdipbnaa

/- Contracts (HarE). -/
namespace Go.Proofs.Ytajplmopdipbnaa
open Go.RowKit
set_option linter.unusedVariables false

/-- an own row, three others rewritten -/
theorem own_only {w w' : World} {base size n : Nat} {e : TypeId} {v u0 u1 u2 : Value} {ys : List Value} (h : w.ownsRow base e size v n ys) (ho : Only3 u0 u1 u2 w w') (hn : ∀ b, v.ownBlock = some b → u0.ownBlock ≠ some b ∧ u1.ownBlock ≠ some b ∧ u2.ownBlock ≠ some b) : w'.ownsRow base e size v n ys := by
  rcases h with ⟨h1, h2 | ⟨g, cap, cur, rfl, hb, hg, h3⟩⟩
  · exact ⟨h1, .inl h2⟩
  · have hl : g < w.heap.size := (Array.getElem?_eq_some_iff.1 hg).1
    obtain ⟨a, b, c⟩ := hn g rfl
    exact ⟨h1, .inr ⟨g, cap, cur, rfl, hb, (ho g hl a b c).trans hg, h3⟩⟩
theorem OwnC.grown {w w' : World} {base : Nat} {A0 A1 A2 : Option Addr} {c0 c1 c2 : Nat} {k : Co} (h : OwnC w base A0 A1 A2 c0 c1 c2 k) {row : Option Nat} (hg : w.grownBy w' row) (hlt : ∀ g, row = some g → g < base) : OwnC w' base A0 A1 A2 c0 c1 c2 k :=
  ⟨own_grown h.1 hg hlt, own_grown h.2.1 hg hlt, own_grown h.2.2.1 hg hlt, h.2.2.2⟩
theorem Tr.dists_le (xs ys : Tr) (k : Co) : (Tr.dists xs ys k).length ≤ 1048576 := by
  unfold Tr.dists
  split
  · rename_i h
    simp only [Bool.and_eq_true] at h
    have h1 := (Tr.len24 h.1.1).2
    have h2 := (Tr.len24 h.1.2).2
    have h3 : xs.length * ys.length ≤ 24 * 24 := Nat.mul_le_mul h1 h2
    rw [Tr.tds_length]
    omega
  · simp

end Go.Proofs.Ytajplmopdipbnaa

/- Contracts of the harness over []Node: size, copy. -/
namespace Go.Proofs.Ytajplmopdipbnaa
open Go.RowKit
set_option linter.unusedVariables false

/-- the first k nodes of xs, then zeros -/
def Tr.part (xs : Tr) (k : Nat) : Tr := xs.take k ++ List.replicate (xs.length - k) (0, 0)
theorem Tr.part_length (xs : Tr) (k : Nat) (hk : k ≤ xs.length) : (Tr.part xs k).length = xs.length := by simp [Tr.part]; omega
theorem Tr.part_set (xs : Tr) (k : Nat) (hk : k < xs.length) : (Tr.part xs k).set k (Tr.l xs k, Tr.d xs k) = Tr.part xs (k + 1) := by
  unfold Tr.part
  rw [List.set_append_right _ _ (by simp; omega)]
  rw [List.take_succ_eq_append_getElem hk, List.append_assoc]
  congr 1
  rw [show xs.length - k = (xs.length - (k + 1)) + 1 by omega, List.replicate_succ]
  simp [Tr.l, Tr.d, List.getD_eq_getElem?_getD, hk, show k - min k xs.length = 0 by omega]
theorem Tr.part_full (xs : Tr) : Tr.part xs xs.length = xs := by simp [Tr.part]
theorem Tr.part_none (xs : Tr) : Tr.part xs 0 = List.replicate xs.length (0, 0) := by simp [Tr.part]

set_option maxHeartbeats 400000 in
theorem szNodeS_any (A : Option Addr) (n c : Nat) (left : Int) (w : World) (hn : n ≤ 9223372036854775807) (h0 : 0 ≤ left) (h1 : left ≤ 1048576) :
    Calls Try.prog 40 #[.slice A n c, .int .i64 left] w fun e w' => e = .returned (.int .i64 (if (n : Int) ≤ left then left - n else -1)) ∧ w = w' := by
  by_cases h : (n : Int) ≤ left
  · rw [if_pos h]
    go_enter Try.func40, Try.ntmps40
    go_wp2
    go_ret
    exact ⟨rfl, rfl⟩
  · rw [if_neg h]
    go_enter Try.func40, Try.ntmps40
    go_wp2
    go_ret
    exact ⟨rfl, rfl⟩

set_option maxHeartbeats 400000 in
theorem toNode_any (a b : Int) (w : World) :
    Calls Try.prog 81 #[.agg #[.int .i64 a, .int .i64 b]] w fun e w' => e = .returned (.agg #[.int .i64 a, .int .i64 b]) ∧ Below w.heap.size w w' := by
  go_enter Try.func81, Try.ntmps81
  go_wp2
  exact bodyPost_ret (v := .agg #[.int .i64 a, .int .i64 b]) (by simp [results, Try.results81, go_sem]) rfl ⟨rfl, by repeat' (first | exact Below.refl _ _ | refine Below.alloc ?_ (by simp [Nat.le_add_right, Nat.add_assoc]) _ | refine Below.setCell ?_ (by simp [Nat.add_assoc]) _)⟩

theorem info_node : (Try.prog.info? 42).map (fun i => (i.zero, i.size, i.bytes)) = some (some (.agg #[.int .i64 0, .int .i64 0]), 2, 16) := by kernel_rfl

theorem made_nodes (n : Nat) : (madeCells (Value.agg #[.int .i64 0, .int .i64 0]).cells (n * 2)).toList = Tr.cells (List.replicate n (0, 0)) := by
  have h1 (m : Nat) : Tr.cells (List.replicate m (0, 0)) = List.replicate (m * 2) (.int .i64 0) := by
    induction m with
    | zero => rfl
    | succ m ih => rw [List.replicate_succ, show (m + 1) * 2 = m * 2 + 1 + 1 by omega, List.replicate_succ, List.replicate_succ, ← ih]; rfl
  rw [h1]
  apply List.ext_getElem?
  intro j
  by_cases hj : j < n * 2
  · have h2 : j % 2 = 0 ∨ j % 2 = 1 := by omega
    rcases h2 with h2 | h2 <;> simp [madeCells, hj, h2, Value.cells]
  · simp [madeCells, hj]

set_option maxHeartbeats 800000 in
set_option maxRecDepth 100000 in
theorem toNodeS_any (A : Option Addr) (n c : Nat) (xs : Tr) (w : World) (h : NdIn w w.heap.size A n xs) (hn : n ≤ 1048576) :
    Calls Try.prog 43 #[.slice A n c] w fun e w' => e = .returned (.slice (some ⟨w.heap.size, 0, none⟩) n n) ∧
      w'.ownsRow w.heap.size 42 2 (.slice (some ⟨w.heap.size, 0, none⟩) n n) n (Tr.cells xs) ∧ Below w.heap.size w w' := by
  have H := Lib.hid h
  clear h
  have HL := Lib.hid H.out.1
  obtain ⟨i0, hi, hz0, hz1, hz2⟩ := info_parts info_node
  go_enter Try.func43, Try.ntmps43
  go_wp2_with (at_make; refine wpList_make_full _ rfl _ _ 24 rfl w.heap.size 42 i0 (.agg #[.int .i64 0, .int .i64 0]) 2 Try.underlying24 hi hz0 hz1 _ _ _ _ n rfl rfl rfl rfl (by rw [hz2]; omega) (by unfold maxLen; omega) (Nat.le_refl _) ?_; intro w1 hown1 hgrow1)
  have hb1 : Below w.heap.size w w1 := (Below.refl _ w).grown hgrow1 (Nat.le_refl _) (fun _ h => by cases h)
  rw [made_nodes, ← HL.out, ← Tr.part_none, HL.out] at hown1
  go_loopw [4] (fun iv wr => ∃ k : Nat, k ≤ n ∧ iv = .int .i64 k ∧ wr.ownsRow w.heap.size 42 2 (.slice (some ⟨w.heap.size, 0, none⟩) n n) n (Tr.cells (Tr.part xs k)) ∧ Below w.heap.size w wr) (fun i _ => n - (intOf i).toNat)
  case atStart => exact ⟨0, by omega, rfl, hown1, hb1⟩
  case round =>
    obtain ⟨k, hk, rfl, hown, hB⟩ := hrel
    have hsz := hB.size
    by_cases hlt : k < n
    · obtain ⟨ad, rfl, hb, hl, hd⟩ := (H.out.below hB).at_ hlt
      have Ho := Lib.hid hown
      have HB := Lib.hid hB
      clear hown hB
      go_wp2_with (go_at_call 81; refine (toNode_any _ _ _).mono ?_; rintro e w' ⟨rfl, hb'⟩; have hb2 := Lib.hid hb'; clear hb'; have Ho2 := Lib.hid (own_below Ho.out hb2.out); have c0 := own_even Ho2.out (k := k) (by rw [Tr.part_length _ _ (by rw [HL.out]; omega), HL.out]; omega); have c1 := own_odd Ho2.out (k := k) (by rw [Tr.part_length _ _ (by rw [HL.out]; omega), HL.out]; omega); have f0 := Ho2.out.frozenAt (k * 2); have f1 := Ho2.out.frozenAt (k * 2 + 1))
      go_roundw
      case rel =>
        refine ⟨k + 1, by omega, by go_num, ?_, ?_⟩
        · have := own_set Ho2.out k (Tr.l xs k) (Tr.d xs k)
          rw [Tr.part_set xs k (by rw [HL.out]; exact hlt)] at this
          exact this
        · exact ((HB.out.trans (hb2.out.mono hsz)).setCell (Nat.le_refl _) _).setCell (Nat.le_refl _) _
      case measure => simp [intOf]; omega
    · obtain rfl : k = n := by omega
      rw [← HL.out, Tr.part_full, HL.out] at hown
      go_wp2
      go_ret
      exact ⟨rfl, hown, hB⟩

end Go.Proofs.Ytajplmopdipbnaa

/- Two lists of nodes that agree so far. -/
namespace Go.Proofs.Ytajplmopdipbnaa
open Go.RowKit
set_option linter.unusedVariables false

/-- the first k nodes agree -/
def Tr.same (xs ys : Tr) (k : Nat) : Prop := ∀ j, j < k → Tr.l xs j = Tr.l ys j ∧ Tr.d xs j = Tr.d ys j

end Go.Proofs.Ytajplmopdipbnaa

/- Contracts of the harness over []Node: equality. -/
namespace Go.Proofs.Ytajplmopdipbnaa
open Go.RowKit
set_option linter.unusedVariables false

set_option maxHeartbeats 400000 in
theorem eqNode_any (a b c d : Int) (w : World) :
    Calls Try.prog 83 #[.agg #[.int .i64 a, .int .i64 b], .agg #[.int .i64 c, .int .i64 d]] w fun e w' => e = .returned (.bool (decide (a = c ∧ b = d))) ∧ Below w.heap.size w w' := by
  have hB : ∀ o1 o2, Below w.heap.size w ((w.alloc o1).alloc o2) := fun o1 o2 => ((Below.refl _ _).alloc (Nat.le_refl _) _).alloc (by simp) _
  by_cases h1 : a = c
  · by_cases h2 : b = d
    · subst h1 h2
      go_enter Try.func83, Try.ntmps83
      go_wp2
      go_ret
      exact ⟨Kit.ret_bool (by simp), hB _ _⟩
    · have h2' : (b != d) = true := by simpa using h2
      subst h1
      go_enter Try.func83, Try.ntmps83
      go_wp2
      go_ret
      exact ⟨Kit.ret_bool (by simp [h2]), hB _ _⟩
  · have h1' : (a != c) = true := by simpa using h1
    go_enter Try.func83, Try.ntmps83
    go_wp2
    go_ret
    exact ⟨Kit.ret_bool (by simp [h1]), hB _ _⟩


set_option maxHeartbeats 800000 in
set_option maxRecDepth 100000 in
theorem eqNodeS_any (A A' : Option Addr) (n c n' c' : Nat) (xs ys : Tr) (w : World) (h : NdIn w w.heap.size A n xs) (h' : NdIn w w.heap.size A' n' ys) (hn : n ≤ 1048576) (hn' : n' ≤ 1048576) :
    Calls Try.prog 46 #[.slice A n c, .slice A' n' c'] w fun e w' => e = .returned (.bool (decide (xs = ys))) ∧ Below w.heap.size w w' := by
  have H := Lib.hid h
  have H' := Lib.hid h'
  clear h h'
  have HL := Lib.hid H.out.1
  have HL' := Lib.hid H'.out.1
  by_cases hnn : n = n'
  · go_enter Try.func46, Try.ntmps46
    have Hnn := Lib.hid hnn
    have hne : ((n : Int) != (n' : Int)) = false := by simp [hnn]
    clear hnn
    go_wp2
    go_loopw [5] (fun iv wr => ∃ k : Nat, k ≤ n ∧ iv = .int .i64 k ∧ Tr.same xs ys k ∧ Below w.heap.size w wr) (fun i _ => n - (intOf i).toNat)
    case atStart => exact ⟨0, by omega, rfl, fun j hj => absurd hj (by omega), Below.refl _ _⟩
    case round =>
      obtain ⟨k, hk, rfl, hsm, hB⟩ := hrel
      have hsz := hB.size
      have Hsm := Lib.hid hsm
      have HB := Lib.hid hB
      clear hsm hB
      by_cases hlt : k < n
      · obtain ⟨ad, rfl, hb, hl, hd⟩ := (H.out.below HB.out).at_ hlt
        obtain ⟨ad', rfl, hb', hl', hd'⟩ := (H'.out.below HB.out).at_ (k := k) (by rw [← Hnn.out]; exact hlt)
        have hlt' : (k : Int) < (n' : Int) := by rw [← Hnn.out]; omega
        have hk0 : (0 : Int) ≤ (k : Int) := by omega
        have HB2 := Lib.hid HB.out.drew
        have hsz2 := HB.out.drew.size
        by_cases hq : Tr.l xs k = Tr.l ys k ∧ Tr.d xs k = Tr.d ys k
        · have hq' : decide (Tr.l xs k = Tr.l ys k ∧ Tr.d xs k = Tr.d ys k) = true := by simpa using hq
          have Hq := Lib.hid hq
          clear hq
          go_wp2
          go_still_tail 8, (by kernel_rfl)
          change wpList _ _ _ _ _ wr.drew
          generalize wr.drew = w2 at HB2 hsz2 ⊢
          go_wp2_with (go_at_call 83; refine (eqNode_any _ _ _ _ _).mono ?_; rintro e w3 ⟨rfl, hb3⟩)
          go_roundw
          case rel => exact ⟨k + 1, by omega, by go_num, fun j hj => by
            rcases Nat.lt_succ_iff_lt_or_eq.1 hj with h' | rfl
            · exact Hsm.out j h'
            · exact Hq.out, HB2.out.trans (hb3.mono hsz2)⟩
          case measure => simp [intOf]; omega
        · have hq' : decide (Tr.l xs k = Tr.l ys k ∧ Tr.d xs k = Tr.d ys k) = false := by simpa using hq
          have Hq := Lib.hid hq
          clear hq
          go_wp2
          go_still_tail 8, (by kernel_rfl)
          change wpList _ _ _ _ _ wr.drew
          generalize wr.drew = w2 at HB2 hsz2 ⊢
          go_wp2_with (go_at_call 83; refine (eqNode_any _ _ _ _ _).mono ?_; rintro e w3 ⟨rfl, hb3⟩)
          go_ret
          refine ⟨Kit.ret_bool ?_, HB2.out.trans (hb3.mono hsz2)⟩
          symm
          rw [decide_eq_false_iff_not]
          rintro rfl
          exact Hq.out ⟨rfl, rfl⟩
      · obtain rfl : k = n := by omega
        go_wp2
        go_ret
        refine ⟨Kit.ret_bool ?_, HB.out⟩
        symm
        rw [decide_eq_true_eq]
        exact Tr.ext (by rw [HL.out, HL'.out]; exact Hnn.out) (fun j hj => Hsm.out j (by rw [← HL.out]; exact hj))
  · have hne : ((n : Int) != (n' : Int)) = true := by simp; omega
    have Hq := Lib.hid (show decide (xs = ys) = false by
      rw [decide_eq_false_iff_not]; rintro rfl; exact hnn (HL.out.symm.trans HL'.out))
    clear hnn
    go_enter Try.func46, Try.ntmps46
    go_wp2
    go_ret
    exact ⟨Kit.ret_bool Hq.out.symm, Below.refl _ _⟩

end Go.Proofs.Ytajplmopdipbnaa

/- Contracts (NdM). -/
namespace Go.Proofs.Ytajplmopdipbnaa
open Go.RowKit
set_option linter.unusedVariables false

set_option maxHeartbeats 800000 in
set_option maxRecDepth 100000 in
theorem markNodeS_any (A : Option Addr) (n c base : Nat) (e0 : TypeId) (k0 : Int) (xs : Tr) (w : World) (h : w.ownsRow base e0 2 (.slice A n c) n (Tr.cells xs)) (hn : n ≤ 1048576) (h0 : 0 ≤ k0) (h1 : k0 ≤ 1073741824) :
    Calls Try.prog 48 #[.slice A n c, .int .i64 k0] w fun e w' => e = .returned (.int .i64 (k0 + 2 * n)) ∧ w'.ownsRow base e0 2 (.slice A n c) n (Tr.cells (Tr.marks k0 n)) ∧ w.grownBy w' (Value.ownBlock (.slice A n c)) := by
  have H := Lib.hid h
  have HL := Lib.hid (show xs.length = n by have := h.1; rw [Tr.cells_length] at this; omega)
  clear h
  go_enter Try.func48, Try.ntmps48
  go_wp2
  go_loopw [5, 1] (fun iv kv wr => ∃ j : Nat, j ≤ n ∧ iv = .int .i64 j ∧ kv = .int .i64 (k0 + 2 * j) ∧ wr.ownsRow base e0 2 (.slice A n c) n (Tr.cells (Tr.marked k0 xs j)) ∧ w.grownBy wr (Value.ownBlock (.slice A n c))) (fun i _ _ => n - (intOf i).toNat)
  case atStart => exact ⟨0, by omega, rfl, by simp, by simpa [Tr.marked, Tr.marks] using H.out, World.grownBy.refl _ _⟩
  case round =>
    obtain ⟨j, hj, rfl, rfl, hown, hgr⟩ := hrel
    by_cases hlt : j < n
    · obtain ⟨g, rfl, hg⟩ := own_form hown (by omega)
      have Ho := Lib.hid hown
      have Hg := Lib.hid hgr
      have c0 := own_even hown (k := j) (by rw [Tr.marked_length _ _ _ (by rw [HL.out]; omega), HL.out]; exact hlt)
      have c1 := own_odd hown (k := j) (by rw [Tr.marked_length _ _ _ (by rw [HL.out]; omega), HL.out]; exact hlt)
      have f0 := hown.frozenAt (j * 2)
      have f1 := hown.frozenAt (j * 2 + 1)
      clear hown hgr hg
      go_wp2
      go_roundw
      case rel =>
        refine ⟨j + 1, by omega, by go_num, by go_num, ?_, grown_tr Hg.out (grown_tr (Ho.out.stored _ _).2 ((Ho.out.stored _ _).1.stored _ _).2)⟩
        have := own_set Ho.out j (k0 + 2 * (j : Nat)) (k0 + 2 * (j : Nat) + 1)
        rw [Tr.marked_set _ _ _ (by rw [HL.out]; exact hlt)] at this
        exact this
      case measure => simp [intOf]; omega
    · obtain rfl : j = n := by omega
      have Ho := Lib.hid hown
      have Hg := Lib.hid hgr
      clear hown hgr
      go_wp2
      go_ret
      refine ⟨rfl, ?_, Hg.out⟩
      have := Ho.out
      rw [← HL.out, Tr.marked_all, HL.out] at this
      exact this

end Go.Proofs.Ytajplmopdipbnaa

/- Contracts (ExTreeDists). -/
namespace Go.Proofs.Ytajplmopdipbnaa
open Go.RowKit
set_option linter.unusedVariables false

set_option maxHeartbeats 3200000 in
set_option maxRecDepth 100000 in
theorem exactTreeDists_walk (A0 : Option Addr) (n0 c0 : Nat) (x0 : Tr) (A1 : Option Addr) (n1 c1 : Nat) (x1 : Tr) (A20 A21 A22 : Option Addr) (n20 n21 n22 c20 c21 c22 : Nat) (x2 : Co) (le0 : n0 ≤ maxLen) (_wf0 : Tr.wf x0) (le1 : n1 ≤ maxLen) (_wf1 : Tr.wf x1) (le20 : n20 ≤ maxLen) (le21 : n21 ≤ maxLen) (le22 : n22 ≤ maxLen) (w : World) (h0 : NdIn w w.heap.size A0 n0 x0) (h1 : NdIn w w.heap.size A1 n1 x1) (h2 : CoIn w w.heap.size A20 A21 A22 n20 n21 n22 x2) :
    Calls Try.prog 9 #[.slice A0 n0 c0, .slice A1 n1 c1, .agg #[.slice A20 n20 c20, .slice A21 n21 c21, .slice A22 n22 c22]] w fun e w' => e = .returned (.bool true) ∧ Below w.heap.size w w' := by
  have Ia0 := Lib.hid h0
  have Hn0 := Lib.hid h0.1
  clear h0
  unfold maxLen at le0
  have Ia1 := Lib.hid h1
  have Hn1 := Lib.hid h1.1
  clear h1
  unfold maxLen at le1
  have Ia2 := Lib.hid h2
  have Hn2 := Lib.hid h2.len
  clear h2
  unfold maxLen at le20 le21 le22
  obtain ⟨wa, hwa⟩ : ∃ wa, wa = (w.alloc (.cells #[.slice A20 n20 c20, .slice A21 n21 c21, .slice A22 n22 c22] 47)) := ⟨_, rfl⟩
  have LW := Lib.hid (show Below w.heap.size w wa by rw [hwa]; exact (Below.refl _ _).alloc (Nat.le_refl _) _)
  have HX2 := Lib.hid (show Box3 wa (w.heap.size) (.slice A20 n20 c20) (.slice A21 n21 c21) (.slice A22 n22 c22) by rw [hwa]; exact Box3.made _ _ _ _ _)
  have GL2 := Lib.hid (show w.heap.size < wa.heap.size by rw [hwa]; simp)
  have LB2 := Lib.hid (Below.refl wa.heap.size wa)
  have HWA := Lib.hid hwa
  clear hwa
  by_cases hs0 : (n0) ≤ 1048576
  rotate_left
  · go_enter Try.func9, Try.ntmps9
    go_wp2_with fail
    rw [← HWA.out]
    refine (szNodeS_any _ _ _ _ _ le0 (by omega) (by omega)).mono ?_
    rintro e w' ⟨rfl, rfl⟩
    rw [if_neg (by omega)]
    go_wp2
    go_ret
    exact ⟨rfl, LW.out⟩
  by_cases hs1 : (n0) + (n1) ≤ 1048576
  rotate_left
  · go_enter Try.func9, Try.ntmps9
    go_wp2_with fail
    rw [← HWA.out]
    refine (szNodeS_any _ _ _ _ _ le0 (by omega) (by omega)).mono ?_
    rintro e w' ⟨rfl, rfl⟩
    rw [if_pos (by omega)]
    go_wp2_with fail
    refine (szNodeS_any _ _ _ _ _ le1 (by omega) (by omega)).mono ?_
    rintro e w' ⟨rfl, rfl⟩
    rw [if_neg (by omega)]
    go_wp2
    go_ret
    exact ⟨rfl, LW.out⟩
  by_cases hs2 : (n0) + (n1) + (n20 + n21 + n22) ≤ 1048576
  rotate_left
  · go_enter Try.func9, Try.ntmps9
    go_wp2_with fail
    rw [← HWA.out]
    refine (szNodeS_any _ _ _ _ _ le0 (by omega) (by omega)).mono ?_
    rintro e w' ⟨rfl, rfl⟩
    rw [if_pos (by omega)]
    go_wp2_with fail
    refine (szNodeS_any _ _ _ _ _ le1 (by omega) (by omega)).mono ?_
    rintro e w' ⟨rfl, rfl⟩
    rw [if_pos (by omega)]
    obtain ⟨g20, g21, g22⟩ := HX2.out.below LB2.out GL2.out
    go_wp2_with fail
    clear g20 g21 g22
    refine (szCost_any _ _ _ _ _ _ _ _ _ _ _ (by omega) (by omega) (by omega) (by omega) (by omega)).mono ?_
    rintro e w1 ⟨rfl, hb⟩
    have LB2 := Lib.hid (LB2.out.trans (hb.mono LB2.out.size))
    have LW := Lib.hid (LW.out.trans (hb.mono LW.out.size))
    clear hb
    rw [if_neg (by omega)]
    go_wp2
    go_ret
    exact ⟨rfl, LW.out⟩
  have hn0 : n0 ≤ 1048576 := by omega
  have hn1 : n1 ≤ 1048576 := by omega
  have hn20 : n20 ≤ 1048576 := by omega
  have hn21 : n21 ≤ 1048576 := by omega
  have hn22 : n22 ≤ 1048576 := by omega
  have La0 := Lib.hid LW.out
  have La1 := Lib.hid LW.out
  have La2 := Lib.hid LW.out
  have HN : (Tr.dists x0 x1 x2).length ≤ 1048576 := Tr.dists_le x0 x1 x2
  go_enter Try.func9, Try.ntmps9
  go_wp2_with fail
  rw [← HWA.out]
  refine (szNodeS_any _ _ _ _ _ le0 (by omega) (by omega)).mono ?_
  rintro e w' ⟨rfl, rfl⟩
  rw [if_pos (by omega)]
  go_wp2_with fail
  refine (szNodeS_any _ _ _ _ _ le1 (by omega) (by omega)).mono ?_
  rintro e w' ⟨rfl, rfl⟩
  rw [if_pos (by omega)]
  obtain ⟨g20, g21, g22⟩ := HX2.out.below LB2.out GL2.out
  go_wp2_with fail
  clear g20 g21 g22
  refine (szCost_any _ _ _ _ _ _ _ _ _ _ _ (by omega) (by omega) (by omega) (by omega) (by omega)).mono ?_
  rintro e w1 ⟨rfl, hb⟩
  have La0 := Lib.hid (La0.out.trans (hb.mono La0.out.size))
  have La1 := Lib.hid (La1.out.trans (hb.mono La1.out.size))
  have La2 := Lib.hid (La2.out.trans (hb.mono La2.out.size))
  have LB2 := Lib.hid (LB2.out.trans (hb.mono LB2.out.size))
  have LW := Lib.hid (LW.out.trans (hb.mono LW.out.size))
  clear hb
  rw [if_pos (by omega)]
  obtain ⟨g20, g21, g22⟩ := HX2.out.below LB2.out GL2.out
  obtain ⟨g20, g21, g22⟩ := HX2.out.below LB2.out GL2.out
  go_wp2_with fail
  have S0 := Lib.hid (show w1.drew.cell? ⟨w.heap.size, 0, none⟩ = some (.slice A20 n20 c20) ∧ w1.drew.cell? ⟨w.heap.size, 1, none⟩ = some (.slice A21 n21 c21) ∧ w1.drew.cell? ⟨w.heap.size, 2, none⟩ = some (.slice A22 n22 c22) ∧ w1.drew.cell? ⟨w.heap.size, 0, none⟩ = some (.slice A20 n20 c20) ∧ w1.drew.cell? ⟨w.heap.size, 1, none⟩ = some (.slice A21 n21 c21) ∧ w1.drew.cell? ⟨w.heap.size, 2, none⟩ = some (.slice A22 n22 c22) ∧ SixG w1 (w.heap.size) (w.heap.size) w1.drew from ⟨g20, g21, g22, g20, g21, g22, (Below.refl _ _).drew, Nat.lt_of_lt_of_le GL2.out LB2.out.size, Nat.lt_of_lt_of_le GL2.out LB2.out.size⟩)
  clear g20 g21 g22
  clear g20 g21 g22
  go_region_held3 (fun wq => wq.cell? ⟨w.heap.size, 0, none⟩ = some (.slice A20 n20 c20) ∧ wq.cell? ⟨w.heap.size, 1, none⟩ = some (.slice A21 n21 c21) ∧ wq.cell? ⟨w.heap.size, 2, none⟩ = some (.slice A22 n22 c22) ∧ wq.cell? ⟨w.heap.size, 0, none⟩ = some (.slice A20 n20 c20) ∧ wq.cell? ⟨w.heap.size, 1, none⟩ = some (.slice A21 n21 c21) ∧ wq.cell? ⟨w.heap.size, 2, none⟩ = some (.slice A22 n22 c22) ∧ SixG w1 (w.heap.size) (w.heap.size) wq) (first | exact S0.out | (refine six_keep ?_ hb; assumption)) (first | (go_at_call 43; (fail_if_success (have := ts0)); refine (toNodeS_any _ _ _ x0 _ (Ia0.out.to_below (La0.out.trans ((six_below (by assumption)).mono La0.out.size))) hn0).mono ?_; rintro e w2 ⟨rfl, ho, hb⟩; have ts0 := True.intro; have Is0 := Lib.hid (NdIn.of_own ho); clear ho) | (go_at_call 43; (fail_if_success (have := ts1)); refine (toNodeS_any _ _ _ x1 _ (Ia1.out.to_below (La1.out.trans ((six_below (by assumption)).mono La1.out.size))) hn1).mono ?_; rintro e w3 ⟨rfl, ho, hb⟩; have ts1 := True.intro; have Is0 := Lib.hid (Is0.out.to_below hb); have Is1 := Lib.hid (NdIn.of_own ho); clear ho) | (go_at_call 44; refine (toCost_any _ _ _ _ _ _ _ _ _ x2 _ (Ia2.out.to_below (La2.out.trans ((six_below (by assumption)).mono La2.out.size))) hn20 hn21 hn22).mono ?_; rintro e w4 ⟨As0, As1, As2, cs0, cs1, cs2, rfl, o0, o1, o2, _, _, _, hb⟩; have Is0 := Lib.hid (Is0.out.to_below hb); have Is1 := Lib.hid (Is1.out.to_below hb); have Is2 := Lib.hid (show CoIn w4 w4.heap.size As0 As1 As2 x2.d.length x2.i.length x2.r.length x2 from ⟨IntIn.of_own o0, IntIn.of_own o1, IntIn.of_own o2⟩); clear o0 o1 o2) | (go_at_call 42; refine (specTreeDists_any (c := _) (c' := _) (c0 := _) (c1 := _) (c2 := _) (ha := Is0.out) (hb := Is1.out) (hk := Is2.out) (hn := hn0) (hn' := hn1) (h0 := (by rw [Hn2.out.1]; exact hn20)) (h1 := (by rw [Hn2.out.2.1]; exact hn21)) (h2 := (by rw [Hn2.out.2.2]; exact hn22))).mono ?_; rintro e w5 ⟨Aw0, cw0, rfl, how, hb⟩))
  have hb := Lib.hid (show SixG w1 (w.heap.size) (w.heap.size) w5 by (first | (rename_i q; exact q.2.2.2.2.2.2) | (rename_i q _; exact q.2.2.2.2.2.2)))
  have hb := hb.out.1
  clear S0
  have La0 := Lib.hid (La0.out.trans (hb.mono La0.out.size))
  have La1 := Lib.hid (La1.out.trans (hb.mono La1.out.size))
  have La2 := Lib.hid (La2.out.trans (hb.mono La2.out.size))
  have LB2 := Lib.hid (LB2.out.trans (hb.mono LB2.out.size))
  have LW := Lib.hid (LW.out.trans (hb.mono LW.out.size))
  clear hb
  clear Is2 Is0 Is1 ts0 ts1
  have Iw0 := Lib.hid (IntIn.of_own how)
  have Lw0 := Lib.hid (Below.refl w5.heap.size w5)
  clear how
  go_wp2_with fail
  have Ma0_x0 := Lib.hid La0.out.size
  have Ma1_x0 := Lib.hid La1.out.size
  have Ma2_x0 := Lib.hid La2.out.size
  have Mw0_x0 := Lib.hid Lw0.out.size
  have MB2_x0 := Lib.hid LB2.out.size
  have MW_x0 := Lib.hid LW.out.size
  refine (toNodeS_any _ _ _ x0 _ (Ia0.out.to_below La0.out) hn0).mono ?_
  rintro e w6 ⟨rfl, ho, hb⟩
  have La0 := Lib.hid (La0.out.trans (hb.mono La0.out.size))
  have La1 := Lib.hid (La1.out.trans (hb.mono La1.out.size))
  have La2 := Lib.hid (La2.out.trans (hb.mono La2.out.size))
  have Lw0 := Lib.hid (Lw0.out.trans (hb.mono Lw0.out.size))
  have LB2 := Lib.hid (LB2.out.trans (hb.mono LB2.out.size))
  have LW := Lib.hid (LW.out.trans (hb.mono LW.out.size))
  clear hb
  have Ox0 := Lib.hid ho
  clear ho
  go_wp2_with fail
  have Ma0_x1 := Lib.hid La0.out.size
  have Ma1_x1 := Lib.hid La1.out.size
  have Ma2_x1 := Lib.hid La2.out.size
  have Mw0_x1 := Lib.hid Lw0.out.size
  have MB2_x1 := Lib.hid LB2.out.size
  have MW_x1 := Lib.hid LW.out.size
  have Mx0_x1 := Lib.hid (fun k hk => (Ox0.out.lt k hk).2)
  refine (toNodeS_any _ _ _ x1 _ (Ia1.out.to_below La1.out) hn1).mono ?_
  rintro e w7 ⟨rfl, ho, hb⟩
  have Ox0 := Lib.hid (own_below Ox0.out hb)
  have La0 := Lib.hid (La0.out.trans (hb.mono La0.out.size))
  have La1 := Lib.hid (La1.out.trans (hb.mono La1.out.size))
  have La2 := Lib.hid (La2.out.trans (hb.mono La2.out.size))
  have Lw0 := Lib.hid (Lw0.out.trans (hb.mono Lw0.out.size))
  have LB2 := Lib.hid (LB2.out.trans (hb.mono LB2.out.size))
  have LW := Lib.hid (LW.out.trans (hb.mono LW.out.size))
  clear hb
  have Ox1 := Lib.hid ho
  clear ho
  obtain ⟨g20, g21, g22⟩ := HX2.out.below LB2.out GL2.out
  go_wp2_with fail
  clear g20 g21 g22
  have Ma0_x2 := Lib.hid La0.out.size
  have Ma1_x2 := Lib.hid La1.out.size
  have Ma2_x2 := Lib.hid La2.out.size
  have Mw0_x2 := Lib.hid Lw0.out.size
  have MB2_x2 := Lib.hid LB2.out.size
  have MW_x2 := Lib.hid LW.out.size
  have Mx0_x2 := Lib.hid (fun k hk => (Ox0.out.lt k hk).2)
  have Mx1_x2 := Lib.hid (fun k hk => (Ox1.out.lt k hk).2)
  refine (toCost_any _ _ _ _ _ _ _ _ _ x2 _ (Ia2.out.to_below La2.out) hn20 hn21 hn22).mono ?_
  rintro e w8 ⟨Ax20, Ax21, Ax22, cx20, cx21, cx22, rfl, o0, o1, o2, a01, a02, a12, hb⟩
  have hsz := hb.size
  have Ox0 := Lib.hid (own_below Ox0.out hb)
  have Ox1 := Lib.hid (own_below Ox1.out hb)
  have La0 := Lib.hid (La0.out.trans (hb.mono La0.out.size))
  have La1 := Lib.hid (La1.out.trans (hb.mono La1.out.size))
  have La2 := Lib.hid (La2.out.trans (hb.mono La2.out.size))
  have Lw0 := Lib.hid (Lw0.out.trans (hb.mono Lw0.out.size))
  have LB2 := Lib.hid (LB2.out.trans (hb.mono LB2.out.size))
  have LW := Lib.hid (LW.out.trans (hb.mono LW.out.size))
  clear hb
  have Ox2 := Lib.hid (show OwnC w8 w7.heap.size Ax20 Ax21 Ax22 cx20 cx21 cx22 x2 from ⟨o0, o1, o2, a01, a02, a12⟩)
  have Sx2 := Lib.hid hsz
  clear hsz o0 o1 o2 a01 a02 a12
  have MBx2_x0 := Lib.hid (fun k hk => (Ox0.out.lt k hk).2)
  have MBx2_x1 := Lib.hid (fun k hk => (Ox1.out.lt k hk).2)
  have MBx2_x2 := Lib.hid (OwnC.lt Ox2.out (Nat.le_refl w8.heap.size))
  obtain ⟨w9, hw⟩ : ∃ wb, wb = w8.alloc (.cells #[.slice Ax20 x2.d.length cx20, .slice Ax21 x2.i.length cx21, .slice Ax22 x2.r.length cx22] 27) := ⟨_, rfl⟩
  have hb : Below w8.heap.size w8 w9 := by rw [hw]; exact (Below.refl _ _).alloc (Nat.le_refl _) _
  have Ox0 := Lib.hid (own_below Ox0.out hb)
  have Ox1 := Lib.hid (own_below Ox1.out hb)
  have Ox2 := Lib.hid (Ox2.out.below hb)
  have Sx2 := Lib.hid (Nat.le_trans Sx2.out hb.size)
  have La0 := Lib.hid (La0.out.trans (hb.mono La0.out.size))
  have La1 := Lib.hid (La1.out.trans (hb.mono La1.out.size))
  have La2 := Lib.hid (La2.out.trans (hb.mono La2.out.size))
  have Lw0 := Lib.hid (Lw0.out.trans (hb.mono Lw0.out.size))
  have LB2 := Lib.hid (LB2.out.trans (hb.mono LB2.out.size))
  have LW := Lib.hid (LW.out.trans (hb.mono LW.out.size))
  clear hb
  have HXx2 := Lib.hid (show Box3 w9 w8.heap.size (.slice Ax20 x2.d.length cx20) (.slice Ax21 x2.i.length cx21) (.slice Ax22 x2.r.length cx22) by rw [hw]; exact Box3.made _ _ _ _ _)
  have GLx2 := Lib.hid (show w8.heap.size < w9.heap.size by rw [hw]; simp)
  have LBx2 := Lib.hid (Below.refl w9.heap.size w9)
  have HW := Lib.hid hw
  clear hw
  obtain ⟨gx20, gx21, gx22⟩ := HXx2.out.below LBx2.out GLx2.out
  rw [HW.out] at gx20 gx21 gx22
  go_wp2_with fail
  clear gx20 gx21 gx22
  rw [← HW.out]
  clear HW
  have Ma0_g0 := Lib.hid La0.out.size
  have Ma1_g0 := Lib.hid La1.out.size
  have Ma2_g0 := Lib.hid La2.out.size
  have Mw0_g0 := Lib.hid Lw0.out.size
  have MB2_g0 := Lib.hid LB2.out.size
  have MBx2_g0 := Lib.hid LBx2.out.size
  have MW_g0 := Lib.hid LW.out.size
  have Mx0_g0 := Lib.hid (fun k hk => (Ox0.out.lt k hk).2)
  have Mx1_g0 := Lib.hid (fun k hk => (Ox1.out.lt k hk).2)
  have Mx2_g0 := Lib.hid (fun s (hs : w9.heap.size ≤ s) => OwnC.lt Ox2.out hs)
  refine (implTreeDists_any (c := _) (c' := _) (c0 := _) (c1 := _) (c2 := _) (ha := (NdIn.of_own Ox0.out)) (hb := (NdIn.of_own Ox1.out)) (hk := Ox2.out.to_in) (hn := hn0) (hn' := hn1) (h0 := (by rw [Hn2.out.1]; exact hn20)) (h1 := (by rw [Hn2.out.2.1]; exact hn21)) (h2 := (by rw [Hn2.out.2.2]; exact hn22)) (hc := Nat.le_refl _) (hc' := Nat.le_refl _)).mono ?_
  rintro e w10 ⟨Ag0, cg0, rfl, ho, hb⟩
  have Ox0 := Lib.hid (own_below Ox0.out hb)
  have Ox1 := Lib.hid (own_below Ox1.out hb)
  have Ox2 := Lib.hid (Ox2.out.below hb)
  have Sx2 := Lib.hid (Nat.le_trans Sx2.out hb.size)
  have La0 := Lib.hid (La0.out.trans (hb.mono La0.out.size))
  have La1 := Lib.hid (La1.out.trans (hb.mono La1.out.size))
  have La2 := Lib.hid (La2.out.trans (hb.mono La2.out.size))
  have Lw0 := Lib.hid (Lw0.out.trans (hb.mono Lw0.out.size))
  have LB2 := Lib.hid (LB2.out.trans (hb.mono LB2.out.size))
  have LBx2 := Lib.hid (LBx2.out.trans (hb.mono LBx2.out.size))
  have LW := Lib.hid (LW.out.trans (hb.mono LW.out.size))
  clear hb
  have Og0 := Lib.hid ho
  clear ho
  go_wp2_with fail
  refine (eqIntS_any _ _ _ _ _ _ (Tr.dists x0 x1 x2) (Tr.dists x0 x1 x2) _ (IntIn.of_own Og0.out) (Iw0.out.to_below Lw0.out) HN HN).mono ?_
  rintro e w11 ⟨rfl, hb⟩
  have Ox0 := Lib.hid (own_below Ox0.out hb)
  have Ox1 := Lib.hid (own_below Ox1.out hb)
  have Ox2 := Lib.hid (Ox2.out.below hb)
  have Sx2 := Lib.hid (Nat.le_trans Sx2.out hb.size)
  have Og0 := Lib.hid (own_below Og0.out hb)
  have La0 := Lib.hid (La0.out.trans (hb.mono La0.out.size))
  have La1 := Lib.hid (La1.out.trans (hb.mono La1.out.size))
  have La2 := Lib.hid (La2.out.trans (hb.mono La2.out.size))
  have Lw0 := Lib.hid (Lw0.out.trans (hb.mono Lw0.out.size))
  have LB2 := Lib.hid (LB2.out.trans (hb.mono LB2.out.size))
  have LBx2 := Lib.hid (LBx2.out.trans (hb.mono LBx2.out.size))
  have LW := Lib.hid (LW.out.trans (hb.mono LW.out.size))
  clear hb
  go_wp2_with fail
  refine (toNodeS_any _ _ _ x0 _ (Ia0.out.to_below La0.out) hn0).mono ?_
  rintro e w12 ⟨rfl, ho, hb⟩
  have Ox0 := Lib.hid (own_below Ox0.out hb)
  have Ox1 := Lib.hid (own_below Ox1.out hb)
  have Ox2 := Lib.hid (Ox2.out.below hb)
  have Sx2 := Lib.hid (Nat.le_trans Sx2.out hb.size)
  have Og0 := Lib.hid (own_below Og0.out hb)
  have La0 := Lib.hid (La0.out.trans (hb.mono La0.out.size))
  have La1 := Lib.hid (La1.out.trans (hb.mono La1.out.size))
  have La2 := Lib.hid (La2.out.trans (hb.mono La2.out.size))
  have Lw0 := Lib.hid (Lw0.out.trans (hb.mono Lw0.out.size))
  have LB2 := Lib.hid (LB2.out.trans (hb.mono LB2.out.size))
  have LBx2 := Lib.hid (LBx2.out.trans (hb.mono LBx2.out.size))
  have LW := Lib.hid (LW.out.trans (hb.mono LW.out.size))
  clear hb
  have Iy0 := Lib.hid (NdIn.of_own ho)
  have Ly0 := Lib.hid (Below.refl w12.heap.size w12)
  clear ho
  go_wp2_with fail
  refine (eqNodeS_any _ _ _ _ _ _ x0 x0 _ (NdIn.of_own Ox0.out) (Iy0.out.to_below Ly0.out) hn0 hn0).mono ?_
  rintro e w13 ⟨rfl, hb⟩
  have Ox0 := Lib.hid (own_below Ox0.out hb)
  have Ox1 := Lib.hid (own_below Ox1.out hb)
  have Ox2 := Lib.hid (Ox2.out.below hb)
  have Sx2 := Lib.hid (Nat.le_trans Sx2.out hb.size)
  have Og0 := Lib.hid (own_below Og0.out hb)
  have La0 := Lib.hid (La0.out.trans (hb.mono La0.out.size))
  have La1 := Lib.hid (La1.out.trans (hb.mono La1.out.size))
  have La2 := Lib.hid (La2.out.trans (hb.mono La2.out.size))
  have Lw0 := Lib.hid (Lw0.out.trans (hb.mono Lw0.out.size))
  have Ly0 := Lib.hid (Ly0.out.trans (hb.mono Ly0.out.size))
  have LB2 := Lib.hid (LB2.out.trans (hb.mono LB2.out.size))
  have LBx2 := Lib.hid (LBx2.out.trans (hb.mono LBx2.out.size))
  have LW := Lib.hid (LW.out.trans (hb.mono LW.out.size))
  clear hb
  go_wp2_with fail
  refine (toNodeS_any _ _ _ x1 _ (Ia1.out.to_below La1.out) hn1).mono ?_
  rintro e w14 ⟨rfl, ho, hb⟩
  have Ox0 := Lib.hid (own_below Ox0.out hb)
  have Ox1 := Lib.hid (own_below Ox1.out hb)
  have Ox2 := Lib.hid (Ox2.out.below hb)
  have Sx2 := Lib.hid (Nat.le_trans Sx2.out hb.size)
  have Og0 := Lib.hid (own_below Og0.out hb)
  have La0 := Lib.hid (La0.out.trans (hb.mono La0.out.size))
  have La1 := Lib.hid (La1.out.trans (hb.mono La1.out.size))
  have La2 := Lib.hid (La2.out.trans (hb.mono La2.out.size))
  have Lw0 := Lib.hid (Lw0.out.trans (hb.mono Lw0.out.size))
  have LB2 := Lib.hid (LB2.out.trans (hb.mono LB2.out.size))
  have LBx2 := Lib.hid (LBx2.out.trans (hb.mono LBx2.out.size))
  have LW := Lib.hid (LW.out.trans (hb.mono LW.out.size))
  clear hb
  have Iy1 := Lib.hid (NdIn.of_own ho)
  have Ly1 := Lib.hid (Below.refl w14.heap.size w14)
  clear ho
  go_wp2_with fail
  refine (eqNodeS_any _ _ _ _ _ _ x1 x1 _ (NdIn.of_own Ox1.out) (Iy1.out.to_below Ly1.out) hn1 hn1).mono ?_
  rintro e w15 ⟨rfl, hb⟩
  have Ox0 := Lib.hid (own_below Ox0.out hb)
  have Ox1 := Lib.hid (own_below Ox1.out hb)
  have Ox2 := Lib.hid (Ox2.out.below hb)
  have Sx2 := Lib.hid (Nat.le_trans Sx2.out hb.size)
  have Og0 := Lib.hid (own_below Og0.out hb)
  have La0 := Lib.hid (La0.out.trans (hb.mono La0.out.size))
  have La1 := Lib.hid (La1.out.trans (hb.mono La1.out.size))
  have La2 := Lib.hid (La2.out.trans (hb.mono La2.out.size))
  have Lw0 := Lib.hid (Lw0.out.trans (hb.mono Lw0.out.size))
  have Ly1 := Lib.hid (Ly1.out.trans (hb.mono Ly1.out.size))
  have LB2 := Lib.hid (LB2.out.trans (hb.mono LB2.out.size))
  have LBx2 := Lib.hid (LBx2.out.trans (hb.mono LBx2.out.size))
  have LW := Lib.hid (LW.out.trans (hb.mono LW.out.size))
  clear hb
  obtain ⟨gx20, gx21, gx22⟩ := HXx2.out.below LBx2.out GLx2.out
  obtain ⟨g20, g21, g22⟩ := HX2.out.below LB2.out GL2.out
  go_wp2_with fail
  have S0 := Lib.hid (show w15.drew.cell? ⟨w8.heap.size, 0, none⟩ = some (.slice Ax20 x2.d.length cx20) ∧ w15.drew.cell? ⟨w8.heap.size, 1, none⟩ = some (.slice Ax21 x2.i.length cx21) ∧ w15.drew.cell? ⟨w8.heap.size, 2, none⟩ = some (.slice Ax22 x2.r.length cx22) ∧ w15.drew.cell? ⟨w.heap.size, 0, none⟩ = some (.slice A20 n20 c20) ∧ w15.drew.cell? ⟨w.heap.size, 1, none⟩ = some (.slice A21 n21 c21) ∧ w15.drew.cell? ⟨w.heap.size, 2, none⟩ = some (.slice A22 n22 c22) ∧ SixG w15 (w8.heap.size) (w.heap.size) w15.drew from ⟨gx20, gx21, gx22, g20, g21, g22, (Below.refl _ _).drew, Nat.lt_of_lt_of_le GLx2.out LBx2.out.size, Nat.lt_of_lt_of_le GL2.out LB2.out.size⟩)
  clear gx20 gx21 gx22
  clear g20 g21 g22
  go_region_held3 (fun wq => wq.cell? ⟨w8.heap.size, 0, none⟩ = some (.slice Ax20 x2.d.length cx20) ∧ wq.cell? ⟨w8.heap.size, 1, none⟩ = some (.slice Ax21 x2.i.length cx21) ∧ wq.cell? ⟨w8.heap.size, 2, none⟩ = some (.slice Ax22 x2.r.length cx22) ∧ wq.cell? ⟨w.heap.size, 0, none⟩ = some (.slice A20 n20 c20) ∧ wq.cell? ⟨w.heap.size, 1, none⟩ = some (.slice A21 n21 c21) ∧ wq.cell? ⟨w.heap.size, 2, none⟩ = some (.slice A22 n22 c22) ∧ SixG w15 (w8.heap.size) (w.heap.size) wq) (first | exact S0.out | (refine six_keep ?_ hb; assumption)) (first | (go_at_call 44; refine (toCost_any _ _ _ _ _ _ _ _ _ x2 _ (Ia2.out.to_below (La2.out.trans ((six_below (by assumption)).mono La2.out.size))) hn20 hn21 hn22).mono ?_; rintro e w16 ⟨Ay20, Ay21, Ay22, cy20, cy21, cy22, rfl, o0, o1, o2, _, _, _, hb⟩) | (go_at_call 47; refine (eqCost_any _ _ _ _ _ _ _ _ _ x2 _ _ _ _ _ _ _ _ _ x2 _ (Ox2.out.to_in.to_below (six_below (by assumption))) ⟨IntIn.of_own o0, IntIn.of_own o1, IntIn.of_own o2⟩ (by rw [Hn2.out.1]; exact hn20) (by rw [Hn2.out.2.1]; exact hn21) (by rw [Hn2.out.2.2]; exact hn22) (by rw [Hn2.out.1]; exact hn20) (by rw [Hn2.out.2.1]; exact hn21) (by rw [Hn2.out.2.2]; exact hn22)).mono ?_; rintro e w17 ⟨rfl, hb⟩; rw [Co.same_self]))
  have hb := Lib.hid (show SixG w15 (w8.heap.size) (w.heap.size) w17 by (first | (rename_i q; exact q.2.2.2.2.2.2) | (rename_i q _; exact q.2.2.2.2.2.2)))
  have hb := hb.out.1
  clear S0
  have Ox0 := Lib.hid (own_below Ox0.out hb)
  have Ox1 := Lib.hid (own_below Ox1.out hb)
  have Ox2 := Lib.hid (Ox2.out.below hb)
  have Sx2 := Lib.hid (Nat.le_trans Sx2.out hb.size)
  have Og0 := Lib.hid (own_below Og0.out hb)
  have La0 := Lib.hid (La0.out.trans (hb.mono La0.out.size))
  have La1 := Lib.hid (La1.out.trans (hb.mono La1.out.size))
  have La2 := Lib.hid (La2.out.trans (hb.mono La2.out.size))
  have Lw0 := Lib.hid (Lw0.out.trans (hb.mono Lw0.out.size))
  have LB2 := Lib.hid (LB2.out.trans (hb.mono LB2.out.size))
  have LBx2 := Lib.hid (LBx2.out.trans (hb.mono LBx2.out.size))
  have LW := Lib.hid (LW.out.trans (hb.mono LW.out.size))
  clear hb
  go_wp2_with fail
  refine (markNodeS_any _ _ _ _ _ _ x0 _ Ox0.out hn0 (by omega) (by omega)).mono ?_
  rintro e w18 ⟨rfl, ho, hg⟩
  have La0 := Lib.hid (La0.out.grown hg La0.out.size (fun k hk => Nat.le_trans Ma0_x0.out (Ox0.out.lt k hk).1))
  have La1 := Lib.hid (La1.out.grown hg La1.out.size (fun k hk => Nat.le_trans Ma1_x0.out (Ox0.out.lt k hk).1))
  have La2 := Lib.hid (La2.out.grown hg La2.out.size (fun k hk => Nat.le_trans Ma2_x0.out (Ox0.out.lt k hk).1))
  have Lw0 := Lib.hid (Lw0.out.grown hg Lw0.out.size (fun k hk => Nat.le_trans Mw0_x0.out (Ox0.out.lt k hk).1))
  have LW := Lib.hid (LW.out.grown hg LW.out.size (fun k hk => Nat.le_trans MW_x0.out (Ox0.out.lt k hk).1))
  have LB2 := Lib.hid (LB2.out.grown hg LB2.out.size (fun k hk => Nat.le_trans MB2_x0.out (Ox0.out.lt k hk).1))
  have hx := HXx2.out.below LBx2.out GLx2.out
  have hl := Nat.lt_of_lt_of_le GLx2.out LBx2.out.size
  have HXx2 := Lib.hid (hx.grown hg hl (fun k hk e => by have := MBx2_x0.out k hk; omega))
  have GLx2 := Lib.hid (Nat.lt_of_lt_of_le hl hg.size)
  have LBx2 := Lib.hid (Below.refl w18.heap.size w18)
  clear hx hl
  have Ox1 := Lib.hid (own_grown Ox1.out hg Mx0_x1.out)
  have Ox2 := Lib.hid (Ox2.out.grown hg Mx0_x2.out)
  have Sx2 := Lib.hid (Nat.le_trans Sx2.out hg.size)
  have Og0 := Lib.hid (own_grown Og0.out hg Mx0_g0.out)
  clear ho hg
  go_wp2_with fail
  refine (markNodeS_any _ _ _ _ _ _ x1 _ Ox1.out hn1 (by omega) (by omega)).mono ?_
  rintro e w19 ⟨rfl, ho, hg⟩
  have La0 := Lib.hid (La0.out.grown hg La0.out.size (fun k hk => Nat.le_trans Ma0_x1.out (Ox1.out.lt k hk).1))
  have La1 := Lib.hid (La1.out.grown hg La1.out.size (fun k hk => Nat.le_trans Ma1_x1.out (Ox1.out.lt k hk).1))
  have La2 := Lib.hid (La2.out.grown hg La2.out.size (fun k hk => Nat.le_trans Ma2_x1.out (Ox1.out.lt k hk).1))
  have Lw0 := Lib.hid (Lw0.out.grown hg Lw0.out.size (fun k hk => Nat.le_trans Mw0_x1.out (Ox1.out.lt k hk).1))
  have LW := Lib.hid (LW.out.grown hg LW.out.size (fun k hk => Nat.le_trans MW_x1.out (Ox1.out.lt k hk).1))
  have LB2 := Lib.hid (LB2.out.grown hg LB2.out.size (fun k hk => Nat.le_trans MB2_x1.out (Ox1.out.lt k hk).1))
  have hx := HXx2.out.below LBx2.out GLx2.out
  have hl := Nat.lt_of_lt_of_le GLx2.out LBx2.out.size
  have HXx2 := Lib.hid (hx.grown hg hl (fun k hk e => by have := MBx2_x1.out k hk; omega))
  have GLx2 := Lib.hid (Nat.lt_of_lt_of_le hl hg.size)
  have LBx2 := Lib.hid (Below.refl w19.heap.size w19)
  clear hx hl
  have Ox2 := Lib.hid (Ox2.out.grown hg Mx1_x2.out)
  have Sx2 := Lib.hid (Nat.le_trans Sx2.out hg.size)
  have Og0 := Lib.hid (own_grown Og0.out hg Mx1_g0.out)
  clear ho hg
  obtain ⟨gx20, gx21, gx22⟩ := HXx2.out.below LBx2.out GLx2.out
  go_wp2_with fail
  clear gx20 gx21 gx22
  refine (markCost_any _ _ _ _ _ _ _ _ x2 _ Ox2.out Sx2.out (by rw [Hn2.out.1]; exact hn20) (by rw [Hn2.out.2.1]; exact hn21) (by rw [Hn2.out.2.2]; exact hn22) (by omega) (by omega)).mono ?_
  rintro e w20 ⟨rfl, ho, hb, hz, hon⟩
  rw [Hn2.out.1, Hn2.out.2.1, Hn2.out.2.2]
  have La0 := Lib.hid (La0.out.trans (hb.mono Ma0_x2.out))
  have La1 := Lib.hid (La1.out.trans (hb.mono Ma1_x2.out))
  have La2 := Lib.hid (La2.out.trans (hb.mono Ma2_x2.out))
  have Lw0 := Lib.hid (Lw0.out.trans (hb.mono Mw0_x2.out))
  have LB2 := Lib.hid (LB2.out.trans (hb.mono MB2_x2.out))
  have LW := Lib.hid (LW.out.trans (hb.mono MW_x2.out))
  have Og0 := Lib.hid (own_only Og0.out hon (fun b hb' => Mx2_g0.out b (Og0.out.lt b hb').1))
  clear ho hb hz hon
  go_wp2_with fail
  refine (eqIntS_any _ _ _ _ _ _ (Tr.dists x0 x1 x2) (Tr.dists x0 x1 x2) _ (IntIn.of_own Og0.out) (Iw0.out.to_below Lw0.out) HN HN).mono ?_
  rintro e w21 ⟨rfl, hb⟩
  have Og0 := Lib.hid (own_below Og0.out hb)
  have La0 := Lib.hid (La0.out.trans (hb.mono La0.out.size))
  have La1 := Lib.hid (La1.out.trans (hb.mono La1.out.size))
  have La2 := Lib.hid (La2.out.trans (hb.mono La2.out.size))
  have Lw0 := Lib.hid (Lw0.out.trans (hb.mono Lw0.out.size))
  have LB2 := Lib.hid (LB2.out.trans (hb.mono LB2.out.size))
  have LW := Lib.hid (LW.out.trans (hb.mono LW.out.size))
  clear hb
  go_wp2_with fail
  refine (markIntS_any _ _ _ _ _ 1 (Tr.dists x0 x1 x2) _ Og0.out HN (by omega) (by omega)).mono ?_
  rintro e w22 ⟨rfl, ho, hg⟩
  have La0 := Lib.hid (La0.out.grown hg La0.out.size (fun k hk => Nat.le_trans Ma0_g0.out (Og0.out.lt k hk).1))
  have La1 := Lib.hid (La1.out.grown hg La1.out.size (fun k hk => Nat.le_trans Ma1_g0.out (Og0.out.lt k hk).1))
  have La2 := Lib.hid (La2.out.grown hg La2.out.size (fun k hk => Nat.le_trans Ma2_g0.out (Og0.out.lt k hk).1))
  have Lw0 := Lib.hid (Lw0.out.grown hg Lw0.out.size (fun k hk => Nat.le_trans Mw0_g0.out (Og0.out.lt k hk).1))
  have LW := Lib.hid (LW.out.grown hg LW.out.size (fun k hk => Nat.le_trans MW_g0.out (Og0.out.lt k hk).1))
  have LB2 := Lib.hid (LB2.out.grown hg LB2.out.size (fun k hk => Nat.le_trans MB2_g0.out (Og0.out.lt k hk).1))
  have Og0 := Lib.hid ho
  clear ho hg
  go_wp2_with fail
  refine (heldIntS_any _ _ _ _ _ 1 _ Og0.out HN (by omega) (by omega)).mono ?_
  rintro e w' ⟨rfl, rfl⟩
  obtain ⟨g20, g21, g22⟩ := HX2.out.below LB2.out GL2.out
  obtain ⟨g20, g21, g22⟩ := HX2.out.below LB2.out GL2.out
  go_wp2_with fail
  have S0 := Lib.hid (show w22.drew.cell? ⟨w.heap.size, 0, none⟩ = some (.slice A20 n20 c20) ∧ w22.drew.cell? ⟨w.heap.size, 1, none⟩ = some (.slice A21 n21 c21) ∧ w22.drew.cell? ⟨w.heap.size, 2, none⟩ = some (.slice A22 n22 c22) ∧ w22.drew.cell? ⟨w.heap.size, 0, none⟩ = some (.slice A20 n20 c20) ∧ w22.drew.cell? ⟨w.heap.size, 1, none⟩ = some (.slice A21 n21 c21) ∧ w22.drew.cell? ⟨w.heap.size, 2, none⟩ = some (.slice A22 n22 c22) ∧ SixG w22 (w.heap.size) (w.heap.size) w22.drew from ⟨g20, g21, g22, g20, g21, g22, (Below.refl _ _).drew, Nat.lt_of_lt_of_le GL2.out LB2.out.size, Nat.lt_of_lt_of_le GL2.out LB2.out.size⟩)
  clear g20 g21 g22
  clear g20 g21 g22
  go_region_held3 (fun wq => wq.cell? ⟨w.heap.size, 0, none⟩ = some (.slice A20 n20 c20) ∧ wq.cell? ⟨w.heap.size, 1, none⟩ = some (.slice A21 n21 c21) ∧ wq.cell? ⟨w.heap.size, 2, none⟩ = some (.slice A22 n22 c22) ∧ wq.cell? ⟨w.heap.size, 0, none⟩ = some (.slice A20 n20 c20) ∧ wq.cell? ⟨w.heap.size, 1, none⟩ = some (.slice A21 n21 c21) ∧ wq.cell? ⟨w.heap.size, 2, none⟩ = some (.slice A22 n22 c22) ∧ SixG w22 (w.heap.size) (w.heap.size) wq) (first | exact S0.out | (refine six_keep ?_ hb; assumption)) (first | (go_at_call 43; (fail_if_success (have := ts0)); refine (toNodeS_any _ _ _ x0 _ (Ia0.out.to_below (La0.out.trans ((six_below (by assumption)).mono La0.out.size))) hn0).mono ?_; rintro e w23 ⟨rfl, ho, hb⟩; have ts0 := True.intro; have Is0 := Lib.hid (NdIn.of_own ho); clear ho) | (go_at_call 43; (fail_if_success (have := ts1)); refine (toNodeS_any _ _ _ x1 _ (Ia1.out.to_below (La1.out.trans ((six_below (by assumption)).mono La1.out.size))) hn1).mono ?_; rintro e w24 ⟨rfl, ho, hb⟩; have ts1 := True.intro; have Is0 := Lib.hid (Is0.out.to_below hb); have Is1 := Lib.hid (NdIn.of_own ho); clear ho) | (go_at_call 44; refine (toCost_any _ _ _ _ _ _ _ _ _ x2 _ (Ia2.out.to_below (La2.out.trans ((six_below (by assumption)).mono La2.out.size))) hn20 hn21 hn22).mono ?_; rintro e w25 ⟨As0, As1, As2, cs0, cs1, cs2, rfl, o0, o1, o2, _, _, _, hb⟩; have Is0 := Lib.hid (Is0.out.to_below hb); have Is1 := Lib.hid (Is1.out.to_below hb); have Is2 := Lib.hid (show CoIn w25 w25.heap.size As0 As1 As2 x2.d.length x2.i.length x2.r.length x2 from ⟨IntIn.of_own o0, IntIn.of_own o1, IntIn.of_own o2⟩); clear o0 o1 o2) | (go_at_call 21; refine (implTreeDists_any (c := _) (c' := _) (c0 := _) (c1 := _) (c2 := _) (ha := Is0.out) (hb := Is1.out) (hk := Is2.out) (hn := hn0) (hn' := hn1) (h0 := (by rw [Hn2.out.1]; exact hn20)) (h1 := (by rw [Hn2.out.2.1]; exact hn21)) (h2 := (by rw [Hn2.out.2.2]; exact hn22)) (hc := Nat.le_refl _) (hc' := Nat.le_refl _)).mono ?_; rintro e w26 ⟨Ah0, ch0, rfl, how, hb⟩))
  have hb := Lib.hid (show SixG w22 (w.heap.size) (w.heap.size) w26 by (first | (rename_i q; exact q.2.2.2.2.2.2) | (rename_i q _; exact q.2.2.2.2.2.2)))
  have hb := hb.out.1
  clear S0
  have Og0 := Lib.hid (own_below Og0.out hb)
  have La0 := Lib.hid (La0.out.trans (hb.mono La0.out.size))
  have La1 := Lib.hid (La1.out.trans (hb.mono La1.out.size))
  have La2 := Lib.hid (La2.out.trans (hb.mono La2.out.size))
  have Lw0 := Lib.hid (Lw0.out.trans (hb.mono Lw0.out.size))
  have LB2 := Lib.hid (LB2.out.trans (hb.mono LB2.out.size))
  have LW := Lib.hid (LW.out.trans (hb.mono LW.out.size))
  clear hb
  clear Is2 Is0 Is1 ts0 ts1
  have Ih0 := Lib.hid (IntIn.of_own how)
  have Lh0 := Lib.hid (Below.refl w26.heap.size w26)
  clear how
  go_wp2_with fail
  refine (eqIntS_any _ _ _ _ _ _ (Tr.dists x0 x1 x2) (Tr.dists x0 x1 x2) _ (Ih0.out.to_below Lh0.out) (Iw0.out.to_below Lw0.out) HN HN).mono ?_
  rintro e w27 ⟨rfl, hb⟩
  have Og0 := Lib.hid (own_below Og0.out hb)
  have La0 := Lib.hid (La0.out.trans (hb.mono La0.out.size))
  have La1 := Lib.hid (La1.out.trans (hb.mono La1.out.size))
  have La2 := Lib.hid (La2.out.trans (hb.mono La2.out.size))
  have Lw0 := Lib.hid (Lw0.out.trans (hb.mono Lw0.out.size))
  have Lh0 := Lib.hid (Lh0.out.trans (hb.mono Lh0.out.size))
  have LB2 := Lib.hid (LB2.out.trans (hb.mono LB2.out.size))
  have LW := Lib.hid (LW.out.trans (hb.mono LW.out.size))
  clear hb
  go_wp2_with fail
  refine (heldIntS_any _ _ _ _ _ 1 _ Og0.out HN (by omega) (by omega)).mono ?_
  rintro e w' ⟨rfl, rfl⟩
  go_wp2
  go_ret
  exact ⟨rfl, LW.out⟩

end Go.Proofs.Ytajplmopdipbnaa

/- An argument []Node, opened: it reads as a list of nodes. -/
namespace Go.Proofs.Ytajplmopdipbnaa
open Go.RowKit Go.ChangeShapes Go.WideShapes Go.Deep
set_option linter.unusedVariables false

theorem open_nodes {H : Type} {enc : TypeId × Value → H} {P : Program} {w : World} {base : Nat} {spare : Nat → Bool} {held : Bool} {t e : TypeId} {f0 f1 : Field} {fuel : Nat} {a : Option Addr} {len cap : Nat} {x : DataW H × List MemPlace}
    (ht : P.underlying t = some (.slice e)) (he : P.underlying e = some (.struct #[f0, f1]))
    (ce : P.cellsOf e = 2) (o0 : f0.offset = 0) (o1 : f1.offset = 1) (c0 : P.cellsOf f0.type = 1) (c1 : P.cellsOf f1.type = 1)
    (k0 : P.underlying f0.type = some (.int .i64)) (k1 : P.underlying f1.type = some (.int .i64))
    (h : DataW.trod enc P w base spare held fuel t [.slice a len cap] = some x) : ∃ xs : Tr, NdIn w w.heap.size a len xs ∧ Tr.wf xs ∧ len ≤ maxLen := by
  have hnil : Tr.wf [] := fun k => by simp [Tr.l, Tr.d]
  rcases open_slice_pairs ht he ce o0 o1 c0 c1 h with ⟨hcs, _⟩ | ⟨ad, l, c, m, n, V0, V1, D0, D1, P0, P1, hcs, _, hl, hm, hmm, _, hi⟩
  · simp at hcs
    obtain ⟨rfl, rfl, rfl⟩ := hcs
    exact ⟨[], ⟨rfl, fun h => absurd h (by omega), fun ad e => by cases e⟩, hnil, by simp [maxLen]⟩
  · simp at hcs
    obtain ⟨rfl, rfl, rfl⟩ := hcs
    have hlm : len ≤ m := by rw [hmm]; split <;> omega
    have each : ∀ i, i < len → ∃ q : Int × Int, w.cell? (ad.add (i * 2)) = some (.int .i64 q.1) ∧ w.cell? (ad.add (i * 2 + 1)) = some (.int .i64 q.2) ∧ (Lit.int .i64 q.1).wf = true ∧ (Lit.int .i64 q.2).wf = true := by
      intro i hil
      obtain ⟨h1, h2, h3, h4⟩ := hi i (by omega)
      obtain ⟨z0, e0, _, w0⟩ := DataW.trod_int k0 h3
      obtain ⟨z1, e1, _, w1⟩ := DataW.trod_int k1 h4
      simp at e0 e1
      exact ⟨(z0, z1), by rw [h1, e0], by rw [h2, e1], w0, w1⟩
    obtain ⟨q, hq⟩ := choose_lt each
    have hget (k : Nat) (hk : k < len) : ((List.range len).map q).getD k (0, 0) = q k := by simp [List.getD_eq_getElem?_getD, hk]
    refine ⟨(List.range len).map q, ⟨by simp, fun hn => ⟨ad, rfl, ?_⟩, fun ad' e k hk => ?_⟩, fun k => ?_, by omega⟩
    · have := World.block_lt_of_cell? w _ (hq 0 hn).1
      rwa [block_of_add] at this
    · obtain rfl : ad = ad' := by injection e
      simp only [Tr.l, Tr.d, hget k hk]
      exact ⟨(hq k hk).1, (hq k hk).2.1⟩
    · by_cases hk : k < len
      · simp only [Tr.l, Tr.d, hget k hk]
        exact ⟨Kit.wf_le (hq k hk).2.2.1, Kit.wf_le (hq k hk).2.2.2⟩
      · simp [Tr.l, Tr.d, List.getD_eq_getElem?_getD, hk]

end Go.Proofs.Ytajplmopdipbnaa

/- Contracts (CoOpen). -/
namespace Go.Proofs.Ytajplmopdipbnaa
open Go.RowKit
set_option linter.unusedVariables false

open Go.ChangeShapes Go.WideShapes Go.Deep Go.Joins
theorem open_introw {H : Type} {enc : TypeId × Value → H} {P : Program} {w : World} {base : Nat} {spare : Nat → Bool} {held : Bool} {t e : TypeId} {fuel : Nat} {v : Value} {x : DataW H × List MemPlace}
    (ht : P.underlying t = some (.slice e)) (he : P.underlying e = some (.int .i64)) (hc : P.cellsOf e = 1)
    (h : DataW.trod enc P w base spare held fuel t [v] = some x) : ∃ (A : Option Addr) (n c : Nat) (zs : List Int), v = .slice A n c ∧ IntIn w w.heap.size A n zs ∧ n ≤ maxLen := by
  rcases open_ints ht he hc h with ⟨hcs, _⟩ | ⟨a, l, c, zs, hcs, _, hl, hm, hz, _, hcell, hwz⟩
  · simp at hcs
    subst hcs
    exact ⟨none, 0, 0, [], rfl, ⟨rfl, fun h => absurd h (by omega), fun ad e => by cases e⟩, by simp [maxLen]⟩
  · simp at hcs
    subst hcs
    have hlz : l ≤ zs.length := by rw [hz]; split <;> omega
    refine ⟨some a, l, c, zs.take l, rfl, ⟨by simp; omega, fun hn => ⟨a, rfl, ?_⟩, fun ad e k hk => ?_⟩, by omega⟩
    · have := World.block_lt_of_cell? w _ (hcell 0 (by omega))
      rwa [block_of_add] at this
    · obtain rfl : a = ad := by injection e
      rw [hcell k (by omega)]
      simp [Zs.at, List.getD_eq_getElem?_getD, hk]
theorem open_cost {H : Type} {enc : TypeId × Value → H} {P : Program} {w : World} {base b0 : Nat} {r : Reach} {spare : Nat → Bool} {held : Bool} {t e : TypeId} {f0 f1 f2 : Field} {v : Value} {d : DataW H} {p : List MemPlace}
    (hs : P.underlying t = some (.struct #[f0, f1, f2])) (hone : oneCellFields P #[f0, f1, f2] = true) (hC : P.cellsOf t = 3)
    (t0 : P.underlying f0.type = some (.slice e)) (t1 : P.underlying f1.type = some (.slice e)) (t2 : P.underlying f2.type = some (.slice e)) (he : P.underlying e = some (.int .i64)) (hc : P.cellsOf e = 1)
    (hv : Value.okWide P w r b0 t v) (h : DataW.Trod enc P w base spare held t v d p) :
    ∃ (A0 A1 A2 : Option Addr) (n0 n1 n2 c0 c1 c2 : Nat) (k : Co), v = .agg #[.slice A0 n0 c0, .slice A1 n1 c1, .slice A2 n2 c2] ∧ CoIn w w.heap.size A0 A1 A2 n0 n1 n2 k ∧ n0 ≤ maxLen ∧ n1 ≤ maxLen ∧ n2 ≤ maxLen := by
  obtain ⟨v0, v1, v2, y0, y1, y2, n, rfl, _, _, k0, k1, k2⟩ := open_agg3 hs hone hC hv h
  obtain ⟨A0, n0, c0, z0, rfl, i0, l0⟩ := open_introw t0 he hc k0
  obtain ⟨A1, n1, c1, z1, rfl, i1, l1⟩ := open_introw t1 he hc k1
  obtain ⟨A2, n2, c2, z2, rfl, i2, l2⟩ := open_introw t2 he hc k2
  exact ⟨A0, A1, A2, n0, n1, n2, c0, c1, c2, ⟨z0, z1, z2⟩, rfl, ⟨i0, i1, i2⟩, l0, l1, l2⟩

end Go.Proofs.Ytajplmopdipbnaa
