/- Texts of one claim laid into one file, in build order: DrSc, At, DrLO, DrAO, AllI13. -/
import Derived.Test.YtgkkeejhfofcaaaHe1
import Derived.Test.YtgkkeejhfofcaaaHe14
import Derived.Test.YtgkkeejhfofcaaaHe19
import Derived.Test.YtgkkeejhfofcaaaHe20
import Derived.Test.YtgkkeejhfofcaaaHe21
import Derived.Test.YtgkkeejhfofcaaaHe22
import Derived.Test.YtgkkeejhfofcaaaHe25
import Derived.Test.YtgkkeejhfofcaaaHe26
import Derived.Test.YtgkkeejhfofcaaaHe29
import Derived.Outline
import Derived.OwnWalk
import Derived.Test.YtgkkeejhfofcaaaRows
/- Contracts (DrSc). -/
namespace Go.Proofs.Ytgkkeejhfofcaaa
open Go.RowKit
set_option linter.unusedVariables false

theorem grown_of13 {w w' : World} (h : Below w.heap.size w w') (row : Option Nat) : w.grownBy w' row := ⟨h.os, h.tape, h.output, h.size, fun k hk _ => h.block k hk⟩
/-- a script, drawn -/
def ScD (w : World) (B : Nat) (k : Code) (most : Nat) (e : Ending) (w' : World) : Prop :=
  ∃ (os : List Opr) (F : Nat → Value) (go c : Nat), e = .returned (.slice (some ⟨go, 0, none⟩) os.length c) ∧ OpsAt 39 3 w.heap.size (.slice (some ⟨go, 0, none⟩) os.length c) os F w' ∧ os.length ≤ most ∧ (∀ i, (os.getD i Opr.z).p.length ≤ 32) ∧ CurX w' B k ∧ w.grownBy w' (some B)
theorem info_opSc : (Try.prog.info? 39).map (fun i => (i.zero, i.size, i.bytes)) = some (some (.agg #[.int .i64 0, .slice none 0 0, .int .i64 0, .int .i64 0, .int .i64 0]), 5, 56) := by kernel_rfl
theorem paths_snoc {os : List Opr} {o : Opr} {N : Nat} (h : ∀ i, (os.getD i Opr.z).p.length ≤ N) (ho : o.p.length ≤ N) : ∀ i, ((os ++ [o]).getD i Opr.z).p.length ≤ N := fun i => by
  rcases Nat.lt_trichotomy i os.length with c | c | c
  · have := h i
    simpa [List.getD_eq_getElem?_getD, List.getElem?_append, c] using this
  · subst c
    simpa [List.getD_eq_getElem?_getD] using ho
  · have : (os ++ [o]).getD i Opr.z = Opr.z := by
      rw [List.getD_eq_getElem?_getD, List.getElem?_eq_none (by simp; omega)]
      rfl
    rw [this]
    exact Nat.zero_le _
set_option maxHeartbeats 3200000 in
set_option maxRecDepth 100000 in
theorem l13Script_ex (w : World) (B : Nat) (k : Code) (A : Option Addr) (n cp : Nat) (xs : Tr) (most : Nat) (hmost : most ≤ 1000) (c : CurX w B k) (h : NdLo w (B + 1) w.heap.size A n xs) (hn : n ≤ 31) :
    Calls Try.prog 83 #[.pointer (some ⟨B, 0, none⟩), .slice A n cp, .int .i64 (most : Int)] w (ScD w B k most) := by
  have hBB := c.lt
  obtain ⟨i0, hi, hz0, hz1, hz2⟩ := info_parts info_opSc
  have Hi := Lib.hid hi
  have hne : 3 ≠ 39 := by decide
  obtain ⟨wa, hwa⟩ : ∃ x, x = w.alloc (.cells #[] 39) := ⟨_, rfl⟩
  have hba : Below w.heap.size w wa := by rw [hwa]; exact (Below.refl _ _).alloc (Nat.le_refl _) _
  have HOa := Lib.hid (show OpsAt 39 3 w.heap.size (.slice (some ⟨w.heap.size, 0, none⟩) 0 0) [] (fun _ => .int .i64 0) wa from OpsAt.nil (by rw [hwa]; exact World.ownsRow_lit w #[] 0 (Nat.le_refl _) (Nat.zero_le _) rfl))
  have HCa := Lib.hid (show CurX wa B k by rw [hwa]; exact c.alloc _)
  have HGa := Lib.hid (show w.grownBy wa (some B) by rw [hwa]; exact Kit.grown_alloc w _ (some B))
  have HNa := Lib.hid (h.1.to_below hba)
  have hsa : w.heap.size ≤ wa.heap.size := hba.size
  have HWA := Lib.hid hwa
  clear c h hba hwa hi
  go_enter Try.func83, Try.ntmps83
  go_wp2_with fail
  rw [← HWA.out]
  refine (l3Copy_all A n cp xs wa HNa.out (by omega)).mono ?_
  rintro e w1 ⟨A1, c1, rfl, ho, g⟩
  have hb1 : Below wa.heap.size wa w1 := (Below.refl _ _).grown g (Nat.le_refl _) (fun b e => by cases e)
  have HO1 := Lib.hid (HOa.out.below hb1)
  have HC1 := Lib.hid (HCa.out.kept g (fun b e => by cases e))
  have HG1 := Lib.hid (HGa.out.andThen g (fun b e => by cases e))
  have HX1 := Lib.hid ho
  have hs1 := g.size
  clear ho g hb1 HOa HCa HGa HNa
  go_wp2_with fail
  refine (l1Below_ex w1 B k (most : Int) HC1.out).mono ?_
  rintro e w2 ⟨v, rfl, hv, c, g⟩
  have HC2 := Lib.hid c
  have HO2 := Lib.hid (HO1.out.grown g (fun b e => by injection e with e; omega))
  have HG2 := Lib.hid (Kit.grown_trans HG1.out g)
  have HX2 := Lib.hid (Kit.keptRow HX1.out (by omega) g)
  have hs2 := g.size
  have hv' : v ≤ most := by omega
  clear c g hv HO1 HC1 HG1 HX1
  go_wp2
  go_loopw [7, 8, 9] (fun ov xv nv wr => ∃ (os : List Opr) (F : Nat → Value) (go co : Nat) (X : Tr) (Ax : Option Addr) (m cx j : Nat), ov = .slice (some ⟨go, 0, none⟩) os.length co ∧ xv = .slice Ax m cx ∧ nv = .int .i64 (j : Int) ∧ OpsAt 39 3 w.heap.size (.slice (some ⟨go, 0, none⟩) os.length co) os F wr ∧ wr.ownsRow w.heap.size 47 2 (.slice Ax m cx) m (Tr.cells X) ∧ m ≤ 31 ∧ os.length + j ≤ most ∧ (∀ i, (os.getD i Opr.z).p.length ≤ 32) ∧ CurX wr B k ∧ w.grownBy wr (some B)) (fun _ _ nv _ => (intOf nv).toNat)
  case atStart => exact ⟨[], fun _ => .int .i64 0, w.heap.size, 0, xs, A1, n, c1, v, rfl, rfl, by go_num, HO2.out, own_base HX2.out hsa, hn, by simp; exact hv', fun i => by simp [Opr.z], HC2.out, HG2.out⟩
  case round =>
    clear HO2 HC2 HG2 HX2
    obtain ⟨os, F, go, co, X, Ax, m, cx, j, rfl, rfl, rfl, hO, hN, hm, hoj, hpl, hc, hg⟩ := hrel
    have HO := Lib.hid hO
    have HN := Lib.hid hN
    have HNL := Lib.hid (show NdLo wr (B + 1) wr.heap.size Ax m X from ⟨NdIn.of_own hN, fun ad e => by have := (hN.lt ad.block (by rw [e]; rfl)).1; omega⟩)
    have HC := Lib.hid hc
    have HG := Lib.hid hg
    have HPL := Lib.hid hpl
    have hsr := hg.size
    clear hO hN hc hg hpl
    by_cases hj0 : j = 0
    · subst hj0
      go_wp2
      go_ret
      exact ⟨os, F, go, co, rfl, HO.out, by omega, HPL.out, HC.out, HG.out⟩
    · have hjp : (0 : Int) < (j : Int) := by omega
      have aj : IntKind.i64.wrap ((j : Int) - 1) = (j : Int) - 1 := Kit.w64 (by omega) (by omega)
      go_wp2_with fail
      refine (l13Op_ex wr B k Ax m cx X HC.out HNL.out hm).mono ?_
      rintro e w3 ⟨kd, a, f, z, p, P, mp, q, rfl, hmp, ho, c, g⟩
      have hpe : mp = p.length := by have := ho.1; rw [ints_length] at this; omega
      subst hpe
      obtain ⟨wz, hwz⟩ : ∃ x, x = w3.alloc (.cells #[.int .i64 kd, .slice P p.length q, .int .i64 a, .int .i64 f, .int .i64 z] 39) := ⟨_, rfl⟩
      have hbz : Below w3.heap.size w3 wz := by rw [hwz]; exact (Below.refl _ _).alloc (Nat.le_refl _) _
      have gz : w3.grownBy wz (some B) := by rw [hwz]; exact Kit.grown_alloc _ _ _
      have HBX := Lib.hid (show Bx5 wz w3.heap.size (.int .i64 kd) (.slice P p.length q) (.int .i64 a) (.int .i64 f) (.int .i64 z) by rw [hwz]; exact Bx5.made _ _ _ _ _ _ _)
      have hs3 := g.size
      have HOz := Lib.hid ((HO.out.grown g (fun b e => by injection e with e; omega)).below hbz)
      have HNz := Lib.hid (own_below (Kit.keptRow HN.out hBB g) hbz)
      have HPz := Lib.hid (own_below ho hbz)
      have HCz := Lib.hid (show CurX wz B k by rw [hwz]; exact c.alloc _)
      have HGz := Lib.hid (Kit.grown_trans (Kit.grown_trans HG.out g) gz)
      have hsz : wz.heap.size = w3.heap.size + 1 := by rw [hwz]; simp
      have HWZ := Lib.hid hwz
      have bx := HBX.out
      rw [hwz] at bx
      obtain ⟨b0, b1, b2, b3, b4⟩ := bx
      clear ho c g gz hbz hwz HO HN HC HG
      go_wp2_with fail
      clear b0 b1 b2 b3 b4
      rw [← HWZ.out]
      refine (specApplyOp_any Ax m cx X kd a f z p P p.length q wz (NdIn.of_own HNz.out) (IntIn.of_own HPz.out) (by omega) (by omega)).mono ?_
      obtain ⟨R, hR⟩ : ∃ R, R = Oc.apply X ⟨kd, p, a, f, z⟩ := ⟨_, rfl⟩
      rw [← hR]
      have hRl : R.1.length ≤ 24 := by rw [hR]; exact Oc.apply_len _ _
      clear hR
      rintro e w4 ⟨A4, c4, rfl, ho4, hb4⟩
      have HBX := Lib.hid (HBX.out.keep hb4)
      have HO4 := Lib.hid (HOz.out.below hb4)
      have HN4 := Lib.hid (own_below HNz.out hb4)
      have HP4 := Lib.hid (own_below HPz.out hb4)
      have HC4 := Lib.hid (HCz.out.kept (grown_of13 hb4 none) (fun b e => by cases e))
      have HG4 := Lib.hid (HGz.out.andThen (grown_of13 hb4 none) (fun b e => by cases e))
      have HY4 := Lib.hid ho4
      have hs4 := hb4.size
      clear ho4 hb4 HOz HNz HPz HCz HGz
      by_cases hc0 : R.2 = 0
      · have hq : (R.2 == 0) = true := by simp [hc0]
        obtain ⟨b0, b1, b2, b3, b4⟩ := HBX.out
        have hsw : w.heap.size ≤ w4.heap.size := by omega
        clear hc0
        go_wp2_with (at_builtin; go_loud (refine append_op w4 rfl _ _ 34 rfl w.heap.size 39 i0 Try.underlying34 Hi.out hz0 hz1 hz2 (.slice (some ⟨go, 0, none⟩) os.length co) os.length _ rfl HO4.out.1 kd P p.length q a f z rfl (by omega) hsw ?_); intro v' w5 hown hgrow)
        obtain ⟨A5, c5, rfl⟩ := own_slice hown
        obtain ⟨g5, rfl, _, _⟩ := own_form hown (by omega)
        have hg5 : w4.grownBy w5 (Value.slice (some ⟨go, 0, none⟩) os.length co).ownBlock := (Kit.grown_alloc w4 _ _).trans hgrow
        have hrow : ∀ b, (Value.slice (some ⟨go, 0, none⟩) os.length co).ownBlock = some b → w.heap.size ≤ b := fun b e => (HO4.out.1.lt b e).1
        have HO5 := Lib.hid (HO4.out.snoc hne (own_base HP4.out (by omega)) hg5 hown)
        have HY5 := Lib.hid (HY4.out.kept hg5 (own_types HY4.out HO4.out.1 (by decide)))
        have HC5 := Lib.hid (HC4.out.kept hg5 (fun b e => by have := hrow b e; omega))
        have HG5 := Lib.hid (HG4.out.andThen hg5 (fun b e => .inl (hrow b e)))
        have HP5 := Lib.hid (paths_snoc (o := ⟨kd, p, a, f, z⟩) HPL.out hmp)
        clear hown hgrow hg5 hrow
        go_wp2
        go_roundw
        case rel => exact ⟨os ++ [⟨kd, p, a, f, z⟩], _, g5, c5, R.1, A4, R.1.length, c4, j - 1, by simp, rfl, by go_num, by simpa using HO5.out, own_base HY5.out (by omega), by omega, by simp; omega, HP5.out, HC5.out, HG5.out⟩
        case measure => simp [intOf]; omega
      · have hq : (R.2 == 0) = false := by simp [hc0]
        clear hc0
        go_wp2_with fail
        refine (l1Once_ex w4 B k 3 HC4.out).mono ?_
        rintro e w5 ⟨bb, rfl, c, g⟩
        have hs5 := g.size
        have HBX := Lib.hid (HBX.out.kept g (fun e => by injection e with e; omega))
        have HO5 := Lib.hid (HO4.out.grown g (fun b e => by injection e with e; omega))
        have HN5 := Lib.hid (Kit.keptRow HN4.out hBB g)
        have HP5 := Lib.hid (own_grown HP4.out g (fun b e => by injection e with e; omega))
        have HC5 := Lib.hid c
        have HG5 := Lib.hid (Kit.grown_trans HG4.out g)
        clear c g HO4 HN4 HP4 HC4 HG4 HY4
        cases bb with
        | false =>
          go_wp2
          go_roundw
          case rel => exact ⟨os, F, go, co, X, Ax, m, cx, j - 1, rfl, rfl, by go_num, HO5.out, HN5.out, hm, by omega, HPL.out, HC5.out, HG5.out⟩
          case measure => simp [intOf]; omega
        | true =>
          obtain ⟨b0, b1, b2, b3, b4⟩ := HBX.out
          have hsw : w.heap.size ≤ w5.heap.size := by omega
          go_wp2_with (at_builtin; go_loud (refine append_op w5 rfl _ _ 34 rfl w.heap.size 39 i0 Try.underlying34 Hi.out hz0 hz1 hz2 (.slice (some ⟨go, 0, none⟩) os.length co) os.length _ rfl HO5.out.1 kd P p.length q a f z rfl (by omega) hsw ?_); intro v' w6 hown hgrow)
          obtain ⟨A5, c5, rfl⟩ := own_slice hown
          obtain ⟨g5, rfl, _, _⟩ := own_form hown (by omega)
          have hg5 : w5.grownBy w6 (Value.slice (some ⟨go, 0, none⟩) os.length co).ownBlock := (Kit.grown_alloc w5 _ _).trans hgrow
          have hrow : ∀ b, (Value.slice (some ⟨go, 0, none⟩) os.length co).ownBlock = some b → w.heap.size ≤ b := fun b e => (HO5.out.1.lt b e).1
          have HO6 := Lib.hid (HO5.out.snoc hne (own_base HP5.out (by omega)) hg5 hown)
          have HC6 := Lib.hid (HC5.out.kept hg5 (fun b e => by have := hrow b e; omega))
          have HG6 := Lib.hid (HG5.out.andThen hg5 (fun b e => .inl (hrow b e)))
          have HPP := Lib.hid (paths_snoc (o := ⟨kd, p, a, f, z⟩) HPL.out hmp)
          have HN6 := Lib.hid (HN5.out.kept hg5 (own_types HN5.out HO5.out.1 (by decide)))
          clear hown hgrow hg5 hrow
          go_wp2
          go_roundw
          case rel => exact ⟨os ++ [⟨kd, p, a, f, z⟩], _, g5, c5, X, Ax, m, cx, j - 1, by simp, rfl, by go_num, by simpa using HO6.out, HN6.out, hm, by simp; omega, HPP.out, HC6.out, HG6.out⟩
          case measure => simp [intOf]; omega

end Go.Proofs.Ytgkkeejhfofcaaa

/- Contracts (At). -/
namespace Go.Proofs.Ytgkkeejhfofcaaa
open Go.RowKit
set_option linter.unusedVariables false

set_option maxHeartbeats 800000 in
set_option maxRecDepth 100000 in
theorem at0_any (a : Option Addr) (n cap : Nat) (cs : List Int) (w : World) (h : CodeIn w w.heap.size a cs) (hn : cs.length = n) (hl : n ≤ 1048576) :
    Calls Try.prog 20 #[.slice a n cap, .int .i64 0] w fun e w' => (∃ z : Nat, z < 256 ∧ e = .returned (.int .i64 (z : Int))) ∧ Below w.heap.size w w' := by
  by_cases h1 : 0 < n
  · obtain ⟨b, off, rfl, hb, hc, h0, h256⟩ := h 0 (by omega)
    obtain ⟨z, hz⟩ := Int.eq_ofNat_of_zero_le h0
    rw [hz] at hc h256
    rw [Nat.add_zero] at hc
    have a0 : IntKind.i64.wrap (z : Int) = (z : Int) := Kit.w64 (by omega) (by omega)
    have g0 : decide (0 < n) = true := decide_eq_true h1
    have g1 : (0 : Int) < (n : Int) := by omega
    have hz2 : z < 256 := by omega
    clear h hz h0 h256 hn
    go_enter Try.func20, Try.ntmps20
    go_wp2
    go_ret
    exact ⟨⟨z, hz2, rfl⟩, Below.refl _ _⟩
  · have g0 : decide (0 < n) = false := decide_eq_false h1
    obtain rfl : n = 0 := by omega
    go_enter Try.func20, Try.ntmps20
    go_wp2
    go_ret
    exact ⟨⟨0, by omega, rfl⟩, Below.refl _ _⟩
end Go.Proofs.Ytgkkeejhfofcaaa

/- Contracts (DrLO). -/
namespace Go.Proofs.Ytgkkeejhfofcaaa
open Go.RowKit
set_option linter.unusedVariables false

/-- nodes and a script, drawn -/
def DrawLO (w : World) (e : Ending) (w' : World) : Prop :=
  ∃ (xs : Tr) (A : Option Addr) (n cp : Nat) (os : List Opr) (go co : Nat), e = .returned (.tuple #[.slice A n cp, .slice (some ⟨go, 0, none⟩) os.length co]) ∧ NdIn w' w'.heap.size A n xs ∧ n ≤ cp ∧ n ≤ 31 ∧ OpsIn w' w'.heap.size (some ⟨go, 0, none⟩) os.length os ∧ os.length ≤ co ∧ os.length ≤ 7 ∧ (∀ i, (os.getD i Opr.z).p.length ≤ 32) ∧ Below w.heap.size w w'
set_option maxHeartbeats 800000 in
set_option maxRecDepth 100000 in
theorem drawApplyAll_ex (w : World) (k : Code) (hcode : CodeIn w w.heap.size k.a k.cs) (hlen : k.cs.length ≤ 1048576) :
    Calls Try.prog 25 #[.slice k.a k.cs.length k.cap] w (DrawLO w) := by
  have HC := Lib.hid hcode
  clear hcode
  go_enter Try.func25, Try.ntmps25
  go_wp2_with fail
  refine (l1New_ex _ k HC.out hlen).mono ?_
  rintro e w1 ⟨rfl, c, g1⟩
  have HX := Lib.hid c
  have HB := Lib.hid ((Below.refl w.heap.size w).grown g1 (Nat.le_refl _) (fun b e => by cases e))
  have l1 := g1.size
  have hlt := c.lt
  clear c g1
  go_wp2_with fail
  refine (l3Any_ex w1 w.heap.size k 8 (by decide) HX.out).mono ?_
  rintro e w2 ⟨xs, A, n, cp, rfl, ha, hcp, hn, c, g⟩
  have HX := Lib.hid c
  have HA := Lib.hid ha
  have HB := Lib.hid (HB.out.trans (Kit.below_of_grown g (fun b e => by injection e with e; omega) l1))
  have l2 := g.size
  clear c g ha
  go_wp2_with fail
  refine (l13Script_ex w2 w.heap.size k A n cp xs 7 (by decide) HX.out ⟨HA.out.1, fun ad e => by have := HA.out.2 ad e; omega⟩ hn).mono ?_
  rintro e w3 ⟨os, F, go, co, rfl, hO, hol, hpl, c, g⟩
  have HA := Lib.hid (HA.out.cur (by omega) g)
  have HB := Lib.hid (HB.out.trans (Kit.below_of_grown g (fun b e => by injection e with e; omega) (by omega)))
  have HO := Lib.hid hO
  have HP := Lib.hid hpl
  clear c g hO hpl
  go_wp2
  refine bodyPost_ret (results_tmp2 rfl _ _ _) rfl ?_
  exact ⟨xs, A, n, cp, os, go, co, rfl, HA.out.1, hcp, hn, HO.out.in_.2, own_cap HO.out.1, hol, HP.out, HB.out⟩
set_option maxHeartbeats 800000 in
set_option maxRecDepth 100000 in
theorem cutAt_any (k : Code) (m : Nat) (hm : m ≤ 1000) (w : World) (h : CodeIn w w.heap.size k.a k.cs) (hl : k.cs.length ≤ 1048576) :
    Calls Try.prog 28 #[.slice k.a k.cs.length k.cap, .int .i64 0, .int .i64 (m : Int)] w fun e w' => (∃ q : Nat, q ≤ m ∧ e = .returned (.int .i64 (q : Int))) ∧ Below w.heap.size w w' := by
  have HC := Lib.hid h
  clear h
  have a0 : IntKind.i64.wrap ((m : Int) + 1) = (m : Int) + 1 := Kit.w64 (by omega) (by omega)
  go_enter Try.func28, Try.ntmps28
  go_wp2_with fail
  refine (at0_any k.a k.cs.length k.cap k.cs w HC.out rfl hl).mono ?_
  rintro e w1 ⟨⟨z, hz, rfl⟩, hb⟩
  have HB := Lib.hid hb
  have hp : z * (m + 1) ≤ 255 * (m + 1) := Nat.mul_le_mul_right _ (by omega)
  obtain ⟨y, hy⟩ : ∃ y, y = z * (m + 1) := ⟨_, rfl⟩
  have e1 : (z : Int) * ((m : Int) + 1) = (y : Int) := by rw [hy]; push_cast; rfl
  rw [← hy] at hp
  have a1 : IntKind.i64.wrap ((z : Int) * ((m : Int) + 1)) = (y : Int) := by rw [e1]; exact Kit.w64 (by omega) (by omega)
  have A2 := Lib.hid (show wrap64 ((y : Int) / 256) = ((y / 256 : Nat) : Int) from by
    unfold wrap64
    omega)
  have hq : y / 256 ≤ m := by omega
  have HQ := Lib.hid hq
  clear hb hy hp e1 hq
  go_wp2
  go_ret
  exact ⟨⟨y / 256, HQ.out, Kit.ret_int A2.out⟩, HB.out⟩
theorem OpsIn.take {w : World} {B : Nat} {A : Option Addr} {n : Nat} {os : List Opr} (h : OpsIn w B A n os) {k : Nat} (hk : k ≤ n) : OpsIn w B A k (os.take k) := by
  refine ⟨by rw [List.length_take, h.1]; omega, fun h0 => h.2.1 (by omega), fun ad e i hi => ?_⟩
  have hg : (os.take k).getD i Opr.z = os.getD i Opr.z := by simp [List.getD_eq_getElem?_getD, hi]
  rw [hg]
  exact h.2.2 ad e i (by omega)
theorem OpsIn.drop {w : World} {B : Nat} {ad : Addr} {n : Nat} {os : List Opr} (h : OpsIn w B (some ad) n os) {k : Nat} (hk : k ≤ n) : OpsIn w B (some (ad.add (k * 5))) (n - k) (os.drop k) := by
  refine ⟨by rw [List.length_drop, h.1], fun h0 => ?_, fun ad' e i hi => ?_⟩
  · obtain ⟨b, e, hb⟩ := h.2.1 (by omega)
    injection e with e
    subst e
    exact ⟨_, rfl, by rw [block_of_add]; exact hb⟩
  · injection e with e
    subst e
    have hg : (os.drop k).getD i Opr.z = os.getD (k + i) Opr.z := by simp [List.getD_eq_getElem?_getD]
    rw [hg]
    have := h.2.2 ad rfl (k + i) (by omega)
    simp only [add_of_add] at this ⊢
    have e5 : ∀ j, k * 5 + (i * 5 + j) = (k + i) * 5 + j := fun j => by omega
    have e6 : k * 5 + i * 5 = (k + i) * 5 := by omega
    rw [e6, e5, e5, e5, e5]
    exact this

end Go.Proofs.Ytgkkeejhfofcaaa

/- Contracts (DrAO). -/
namespace Go.Proofs.Ytgkkeejhfofcaaa
open Go.RowKit
set_option linter.unusedVariables false

theorem codeIn_on13 {w w' : World} {B : Nat} {a : Option Addr} {cs : List Int} (h : CodeIn w B a cs) (hb : Below B w w') (hB : B ≤ w'.heap.size) : CodeIn w' w'.heap.size a cs := by
  intro j hj
  obtain ⟨b, off, h1, h2, h3, h4⟩ := h j hj
  exact ⟨b, off, h1, by omega, (hb.cell (p := ⟨b, off + j, none⟩) h2).trans h3, h4⟩
end Go.Proofs.Ytgkkeejhfofcaaa

/- Contracts (AllI13). -/
namespace Go.Proofs.Ytgkkeejhfofcaaa
open Go.RowKit
set_option linter.unusedVariables false

set_option maxHeartbeats 3200000 in
set_option maxRecDepth 100000 in
theorem implApplyAll_any (A B : Option Addr) (n c n' c' : Nat) (xs : Tr) (os : List Opr) (w : World) (h : NdIn w w.heap.size A n xs) (h' : OpsIn w w.heap.size B n' os) (hn : n ≤ 1048576) (hn' : n' ≤ 1048576) (hnc : n ≤ c) (hp : ∀ i, (os.getD i Opr.z).p.length ≤ 1048576) :
    Calls Try.prog 26 #[.slice A n c, .slice B n' c'] w (OwnNd3 47 (Oc.allOf xs os) w) := by
  have H := Lib.hid h
  have O := Lib.hid h'
  clear h h'
  have HL := Lib.hid H.out.1
  have OL := Lib.hid O.out.1
  have HP := Lib.hid hp
  clear hp
  rcases hok : Tr.ok xs with _ | _
  · have HR := Lib.hid (show Oc.allOf xs os = ([], 0, 2) by unfold Oc.allOf; rw [hok]; rfl)
    have Hok := Lib.hid hok
    clear hok
    go_enter Try.func26, Try.ntmps26
    go_wp2_with fail
    refine (implTreeOk_any _ _ _ xs _ H.out hn hnc).mono ?_
    rintro e w1 ⟨rfl, hb1⟩
    have HB1 := Lib.hid (show Below w.heap.size w w1 from hb1)
    have hs1 := HB1.out.size
    clear hb1
    rw [Hok.out]
    go_wp2
    go_ret3
    exact ⟨none, 0, by rw [HR.out]; rfl, by rw [HR.out]; exact own_nil, HB1.out⟩
  have HR := Lib.hid (show Oc.allOf xs os = Oc.from_ xs os 0 by unfold Oc.allOf; rw [if_pos hok, Oc.from_zero])
  have n24 := Tr.len24 hok
  rw [HL.out] at n24
  obtain ⟨ad, rfl, _⟩ := H.out.2.1 (by omega)
  have HOK := Lib.hid hok
  have HFS := Lib.hid (fun (X : Tr) (i : Nat) (hi : i < os.length) => Oc.from_step X os hi)
  have HFE := Lib.hid (fun (X : Tr) => Oc.from_end X os)
  clear hok
  go_enter Try.func26, Try.ntmps26
  go_wp2_with fail
  refine (implTreeOk_any _ _ _ xs _ H.out hn hnc).mono ?_
  rintro e w1 ⟨rfl, hb1⟩
  have HB1 := Lib.hid (show Below w.heap.size w w1 from hb1)
  have hs1 := HB1.out.size
  have H1 := Lib.hid (H.out.to_below HB1.out)
  clear hb1
  rw [HOK.out]
  go_wp2_with fail
  refine (cloneNode_any _ _ _ xs _ H1.out hn).mono ?_
  rintro e w2 ⟨A2, c2, rfl, ho2, hb2⟩
  have HB2 := Lib.hid (HB1.out.trans (hb2.mono hs1))
  have HO2 := Lib.hid (own_base ho2 hs1)
  clear hb2 ho2
  go_wp2
  go_loopw [7, 18] (fun ov iv wr => ∃ (i : Nat) (X : Tr) (A7 : Option Addr) (c7 : Nat), i ≤ n' ∧ iv = .int .i64 i ∧ ov = .slice A7 X.length c7 ∧ wr.ownsRow w.heap.size 47 2 (.slice A7 X.length c7) X.length (Tr.cells X) ∧ Tr.ok X = true ∧ Oc.from_ xs os 0 = Oc.from_ X os i ∧ Below w.heap.size w wr) (fun _ i _ => n' - (intOf i).toNat)
  case atStart => exact ⟨0, xs, A2, c2, by omega, by go_num, rfl, HO2.out, HOK.out, rfl, HB2.out⟩
  case round =>
    obtain ⟨i, X, A7, c7, hi, rfl, rfl, hown, hokX, hfrom, hB⟩ := hrel
    have HO7 := Lib.hid hown
    have hc7 := own_cap hown
    have HB := Lib.hid hB
    have HFR := Lib.hid hfrom
    have hX24 := Tr.len24 hokX
    have HKX := Lib.hid hokX
    have HN := Lib.hid (NdIn.of_own hown)
    clear hown hB hfrom hokX
    by_cases hlt : i < n'
    · obtain ⟨ad2, P, q, rfl, y0, y1, y2, y3, y4, hI⟩ := (O.out.to_below HB.out).at_ hlt
      have HI := Lib.hid hI
      have HPL := Lib.hid (HP.out i)
      have HST := Lib.hid (HFS.out X i (by rw [OL.out]; exact hlt))
      obtain ⟨o, ho⟩ : ∃ o, o = os.getD i Opr.z := ⟨_, rfl⟩
      rw [← ho] at y0 y1 y2 y3 y4 HI HPL HST
      obtain ⟨K, p, Ka, Kf, Kz⟩ := o
      dsimp only at y0 y1 y2 y3 y4 HI HPL
      clear ho hI
      have b0 : (0 : Int) ≤ (i : Int) := by omega
      have b1 : (i : Int) < (n' : Int) := by omega
      obtain ⟨R, hR⟩ : ∃ R, R = Oc.apply X ⟨K, p, Ka, Kf, Kz⟩ := ⟨_, rfl⟩
      obtain ⟨wa, hwa⟩ : ∃ x, x = wr.alloc (.cells #[.int .i64 K, .slice P p.length q, .int .i64 Ka, .int .i64 Kf, .int .i64 Kz] 39) := ⟨_, rfl⟩
      have hba : Below wr.heap.size wr wa := by rw [hwa]; exact (Below.refl _ _).alloc (Nat.le_refl _) _
      have HO7 := Lib.hid (own_below HO7.out hba)
      have HN := Lib.hid (HN.out.to_below hba)
      have HI := Lib.hid (HI.out.to_below hba)
      have HB := Lib.hid (HB.out.trans (hba.mono HB.out.size))
      have HWA := Lib.hid hwa
      clear hba hwa
      have CC := Lib.hid (show Calls Try.prog 21 #[.slice A7 X.length c7, .agg #[.int .i64 K, .slice P p.length q, .int .i64 Ka, .int .i64 Kf, .int .i64 Kz]] wa (OwnNdC 47 R wa) from by rw [hR]; exact implApplyOp_any A7 X.length c7 X K Ka Kf Kz p P p.length q _ HN.out HI.out (by omega) HPL.out hc7)
      go_wp2_with fail
      rw [← HWA.out]
      refine CC.out.mono ?_
      rintro e w4 ⟨A4, c4, rfl, ho4, hb4⟩
      have HB4 := Lib.hid (HB.out.trans (hb4.mono HB.out.size))
      have HO4 := Lib.hid (own_base ho4 HB.out.size)
      have HO7 := Lib.hid (own_below HO7.out hb4)
      clear ho4 hb4 y0 y1 y2 y3 y4
      by_cases hc : R.2 = 0
      · have q0 : (R.2 == 0) = true := by simpa using hc
        have q2 : (R.2 != 0) = false := by simpa using hc
        have HOX := Lib.hid (show Tr.ok R.1 = true by rw [hR] at hc ⊢; exact Oc.apply_ok HKX.out hc)
        have HST2 := Lib.hid (show Oc.from_ xs os 0 = Oc.from_ R.1 os (i + 1) by rw [HFR.out, HST.out, ← hR, if_pos hc])
        clear hR hc
        go_wp2
        go_roundw
        case rel => exact ⟨i + 1, R.1, A4, c4, by omega, by go_num, rfl, HO4.out, HOX.out, HST2.out, HB4.out⟩
        case measure => simp [intOf]; omega
      · have q0 : (R.2 == 0) = false := by simpa using hc
        have q1 : ¬ R.2 = 0 := hc
        have q2 : (R.2 != 0) = true := by simpa using hc
        have HKP := Lib.hid (show R.1 = X by rw [hR] at hc ⊢; exact Oc.apply_keep HKX.out hc)
        have HST2 := Lib.hid (show Oc.allOf xs os = (X, i, R.2) by rw [HR.out, HFR.out, HST.out, ← hR, if_neg hc])
        clear hR hc
        go_wp2
        go_ret3
        exact ⟨A4, c4, by rw [HST2.out, ← HKP.out]; rfl, by rw [HST2.out, ← HKP.out]; exact HO4.out, HB4.out⟩
    · obtain rfl : i = n' := by omega
      have HST2 := Lib.hid (show Oc.allOf xs os = (X, i, 0) by rw [HR.out, HFR.out]; have := HFE.out X; rw [OL.out] at this; exact this)
      go_wp2
      go_ret3
      exact ⟨A7, c7, by rw [HST2.out]; rfl, by rw [HST2.out]; exact HO7.out, HB.out⟩

end Go.Proofs.Ytgkkeejhfofcaaa
