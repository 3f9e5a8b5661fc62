/- Texts of one claim laid into one file, in build order: GrpK, Px, ComI. -/
import Derived.Test.YtlndaflhlkbedaaMc10
import Derived.Test.YtlndaflhlkbedaaMc5
import Derived.Test.YtlndaflhlkbedaaMc7
import Derived.Test.YtlndaflhlkbedaaMc9
import Derived.Test.YtlndaflhlkbedaaMg12
import Derived.BigQuiet
import Derived.Maps.GroupsBeside
import Derived.Maps.OwnRows
import Derived.Maps.RangeWalk
import Derived.Maps.Views
import Derived.Outline
import Derived.Test.YtlndaflhlkbedaaRows
import Derived.WalkArith
/- Contracts (GrpK). -/
namespace Go.Proofs.Ytlndaflhlkbedaa
open Go.RowKit
set_option linter.unusedVariables false

open Go.Maps Go.MapKept Go.ChangeMaps Go.WideShapes Go.ChangeShapes
open Go.WideElems (Fit)

/-- what a key reads as -/
def gpRow (zs : List Int) : DataW Unit := if zs = [] then .nil else .slice (lits .i64 zs) []
theorem gpLaw : Keyed Try.prog 3 := int_keyed Try.underlying3
theorem gpZero (w : World) : (zeroValue 25).run Try.prog w = .ok (.slice none 0 0) w := by kernel_rfl
/-- block b holds where each key leads by the first k pairs -/
def Grp (ns : Tr) (b k : Nat) (w : World) : Prop :=
  ∃ D : DataW Unit, w.ownsGroups Try.prog 3 (b + 1) 3 .i64 b k D ∧ ∀ a : Int, (Lit.int .i64 a).wf = true → D.atKey (.int .i64 a) .nil = gpRow (Cp.out ns a k)
theorem Grp.made (w : World) (ns : Tr) : Grp ns w.heap.size 0 (w.alloc (.map #[] 0)) := ⟨.map [], World.ownsGroups_made _ _ _ _ _, fun a _ => rfl⟩
theorem gp_lits : ∀ {xs ys : List Int}, lits .i64 xs = (lits .i64 ys : List (DataW Unit)) → xs = ys := by
  intro xs ys h
  unfold lits at h
  exact (List.map_inj_right (fun a b hab => by cases hab; rfl)).1 h
theorem gp_row {w : World} {base : Nat} {e : TypeId} {v : Value} {zs out : List Int} (h : w.ownsInts base e .i64 v zs) (he : gpRow out = rowDatum .i64 v zs) : zs = out := by
  unfold gpRow at he
  rcases h.datum (H := Unit) with ⟨h1, h2⟩ | h1
  · rw [h1] at he
    by_cases e0 : out = []
    · rw [h2, e0]
    · rw [if_neg e0] at he; cases he
  · rw [h1] at he
    by_cases e0 : out = []
    · rw [if_pos e0] at he; cases he
    · rw [if_neg e0] at he
      simp only [DataW.slice.injEq] at he
      exact (gp_lits he.1).symm
theorem Grp.look {ns : Tr} {b k : Nat} {w : World} (h : Grp ns b k w) (hk : k < maxLen) {a : Int} (ha : (Lit.int .i64 a).wf = true) :
    ∃ v, (Instr.lookup 119 (.map (some b)) (.int .i64 a) false).run Try.prog w = .ok v w ∧ w.ownsInts (b + 1) 3 .i64 v (Cp.out ns a k) ∧
      (a = Tr.l ns k → ∀ (w1 : World) (v' : Value), w.grownBy w1 v.ownBlock → w1.ownsInts (b + 1) 3 .i64 v' (Cp.out ns a k ++ [Tr.d ns k]) → (v'.ownBlock = v.ownBlock ∨ ∃ g, v'.ownBlock = some g ∧ w.heap.size ≤ g) →
        ∃ w2, (Instr.mapUpdate 119 (.map (some b)) (.int .i64 a) v').run Try.prog w1 = .ok () w2 ∧ Grp ns b (k + 1) w2 ∧ w1.grownBy w2 (some b)) := by
  obtain ⟨D, hD, hat⟩ := h
  have hkey : keyOf Try.prog 3 (.int .i64 a) = some (.int .i64 a) := keyOf_int_mk Try.underlying3 ha
  obtain ⟨v, zs, hrun, he, ho, hl, hback⟩ := hD.at gpLaw Try.underlying119 (gpZero w) hk hkey
  obtain rfl := gp_row ho ((hat a ha).symm.trans he)
  refine ⟨v, hrun, ho, fun hal w1 v' hg ho' hloc => ?_⟩
  obtain ⟨w2, h1, h2, h3⟩ := hback w1 v' _ hg ho' (by rw [List.length_append, List.length_singleton]; omega) hloc
  refine ⟨w2, h1, ⟨_, h2, fun c hc => ?_⟩, h3⟩
  have hm : IsMap D := by obtain ⟨es, clock, _, _, _, rfl, _⟩ := hD; exact ⟨_, rfl⟩
  by_cases e : c = a
  · subst e
    rw [atKey_put_same hm (gpLaw.key hkey), Cp.out_yes hal]
    rw [ho'.datum_pos (by simp)]
    unfold gpRow
    rw [if_neg (by simp)]
  · rw [atKey_put_other (fun hh => e (by cases hh; rfl)), hat c hc, Cp.out_no (fun hh => e (hh.trans hal.symm))]
theorem Grp.below {ns : Tr} {b k : Nat} {w w' : World} (h : Grp ns b k w) (hb : Below w.heap.size w w') : Grp ns b k w' := by
  obtain ⟨D, hD, hat⟩ := h
  refine ⟨D, hD.kept (row := none) ⟨hb.os, hb.tape, hb.output, hb.size, fun k hk _ => hb.block k hk⟩ (by simp) (fun es clock _ x _ => ?_), hat⟩
  rcases x.val.ownBlock with _ | g <;> simp

end Go.Proofs.Ytlndaflhlkbedaa

/- Contracts (Px). -/
namespace Go.Proofs.Ytlndaflhlkbedaa
open Go.RowKit
set_option linter.unusedVariables false

section
variable {wa wx wy : World} {s t : Nat} {v0 v1 v2 v3 : Int}
theorem px_below (h : (wx.cell? ⟨s, 0, none⟩ = some (.int .i64 v0) ∧ wx.cell? ⟨s, 1, none⟩ = some (.int .i64 v1) ∧ wx.cell? ⟨t, 0, none⟩ = some (.int .i64 v2) ∧ wx.cell? ⟨t, 1, none⟩ = some (.int .i64 v3)) ∧ BelA wa wx) : Below wa.heap.size wa wx := h.2
theorem px_keep (h : (wx.cell? ⟨s, 0, none⟩ = some (.int .i64 v0) ∧ wx.cell? ⟨s, 1, none⟩ = some (.int .i64 v1) ∧ wx.cell? ⟨t, 0, none⟩ = some (.int .i64 v2) ∧ wx.cell? ⟨t, 1, none⟩ = some (.int .i64 v3)) ∧ BelA wa wx) (hb : Below wx.heap.size wx wy) : (wy.cell? ⟨s, 0, none⟩ = some (.int .i64 v0) ∧ wy.cell? ⟨s, 1, none⟩ = some (.int .i64 v1) ∧ wy.cell? ⟨t, 0, none⟩ = some (.int .i64 v2) ∧ wy.cell? ⟨t, 1, none⟩ = some (.int .i64 v3)) ∧ BelA wa wy :=
  have c : ∀ {p : Addr} {v : Value}, wx.cell? p = some v → wy.cell? p = some v := fun hc => (hb.cell (World.block_lt_of_cell? _ _ hc)).trans hc
  ⟨⟨c h.1.1, c h.1.2.1, c h.1.2.2.1, c h.1.2.2.2⟩, h.2.trans (hb.mono h.2.size)⟩
theorem p2_below (h : (wx.cell? ⟨s, 0, none⟩ = some (.int .i64 v0) ∧ wx.cell? ⟨s, 1, none⟩ = some (.int .i64 v1)) ∧ BelA wa wx) : Below wa.heap.size wa wx := h.2
theorem p2_keep (h : (wx.cell? ⟨s, 0, none⟩ = some (.int .i64 v0) ∧ wx.cell? ⟨s, 1, none⟩ = some (.int .i64 v1)) ∧ BelA wa wx) (hb : Below wx.heap.size wx wy) : (wy.cell? ⟨s, 0, none⟩ = some (.int .i64 v0) ∧ wy.cell? ⟨s, 1, none⟩ = some (.int .i64 v1)) ∧ BelA wa wy :=
  have c : ∀ {p : Addr} {v : Value}, wx.cell? p = some v → wy.cell? p = some v := fun hc => (hb.cell (World.block_lt_of_cell? _ _ hc)).trans hc
  ⟨⟨c h.1.1, c h.1.2⟩, h.2.trans (hb.mono h.2.size)⟩
/-- two ints in a block -/
def Bx2 (w : World) (b : Nat) (i j : Int) : Prop := w.cell? ⟨b, 0, none⟩ = some (.int .i64 i) ∧ w.cell? ⟨b, 1, none⟩ = some (.int .i64 j)
theorem Bx2.below {w w' : World} {b B : Nat} {i j : Int} (h : Bx2 w b i j) (hb : Below B w w') (hl : b < B) : Bx2 w' b i j := ⟨(hb.cell (p := ⟨b, 0, none⟩) hl).trans h.1, (hb.cell (p := ⟨b, 1, none⟩) hl).trans h.2⟩
theorem Bx2.made (w : World) (i j : Int) (e : TypeId) : Bx2 (w.alloc (.cells #[.int .i64 i, .int .i64 j] e)) w.heap.size i j := ⟨by simp, by simp⟩
theorem Bx2.lt {w : World} {b : Nat} {i j : Int} (h : Bx2 w b i j) : b < w.heap.size := World.block_lt_of_cell? _ _ h.1
theorem below_drawn_b {B : Nat} {a b : World} (h : Below B a b) (n : Nat) : Below B a (b.drewN n) := ⟨h.os, h.tape, h.output, h.size, h.block⟩
end

end Go.Proofs.Ytlndaflhlkbedaa

/- Contracts (ComI). -/
namespace Go.Proofs.Ytlndaflhlkbedaa
open Go.RowKit
set_option linter.unusedVariables false

theorem info_prCI : (Try.prog.info? 55).map (fun i => (i.zero, i.size, i.bytes)) = some (some (.agg #[.int .i64 0, .int .i64 0]), 2, 16) := by kernel_rfl
theorem info_itC : (Try.prog.info? 3).map (fun i => (i.zero, i.size, i.bytes)) = some (some (.int .i64 0), 1, 8) := by kernel_rfl
set_option maxHeartbeats 1600000 in
set_option maxRecDepth 100000 in
theorem implComposed_any (A A' : Option Addr) (n n' c c' : Nat) (ms ns : Tr) (w : World) (h : NdIn w w.heap.size A n ms) (h' : NdIn w w.heap.size A' n' ns) (hn : n ≤ 1048576) (hn' : n' ≤ 1048576) (wf : Tr.wf ms) (wf' : Tr.wf ns) :
    Calls Try.prog 46 #[.slice A n c, .slice A' n' c'] w (OwnNodes 55 (Cp.all ms ns) w) := by
  have H := Lib.hid h
  have H' := Lib.hid h'
  have WF := Lib.hid wf
  have WF' := Lib.hid wf'
  clear h h' wf wf'
  have HL := Lib.hid H.out.1
  have HL' := Lib.hid H'.out.1
  obtain ⟨i0, hi, hz0, hz1, hz2⟩ := info_parts info_itC
  have hmm := @run_makeMap Try.prog
  go_enter Try.func46, Try.ntmps46
  go_wp2
  go_loopw [16] (fun kv wr => ∃ k : Nat, k ≤ n' ∧ kv = .int .i64 k ∧ Grp ns w.heap.size k wr ∧ Below w.heap.size w wr ∧ w.heap.size + 1 ≤ wr.heap.size) (fun k _ => n' - (intOf k).toNat)
  case atStart => exact ⟨0, by omega, rfl, Grp.made w ns, (Below.refl _ _).alloc (Nat.le_refl _) _, by simp⟩
  case round =>
    obtain ⟨k, hk, rfl, hG, hB, hsz⟩ := hrel
    have HG := Lib.hid hG
    have HB := Lib.hid hB
    clear hG hB
    by_cases hlt : k < n'
    · obtain ⟨bd, rfl, _, lc, ld⟩ := (H'.out.to_below HB.out).at_ (k := k) hlt
      obtain ⟨wz, hwz⟩ : ∃ wz, wz = wr.alloc (.cells #[.int .i64 (Tr.l ns k), .int .i64 (Tr.d ns k)] 55) := ⟨_, rfl⟩
      have BZ := Lib.hid (show Below wr.heap.size wr wz by rw [hwz]; exact (Below.refl _ _).alloc (Nat.le_refl _) _)
      obtain ⟨r0, r1⟩ := (show Bx2 wz wr.heap.size (Tr.l ns k) (Tr.d ns k) by rw [hwz]; exact Bx2.made _ _ _ _)
      have BD := Lib.hid (show Below wz.heap.size wz wz.drew from (Drawn.refl _).drew.toBelow)
      have BA := Lib.hid (show Below wz.drew.heap.size wz.drew (wz.alloc (.cells #[.int .i64 (Tr.d ns k)] 3)).drew from (Below.refl wz.drew.heap.size wz.drew).alloc (Nat.le_refl _) _)
      have HBZ := Lib.hid (HB.out.trans (BZ.out.mono HB.out.size))
      have HBD := Lib.hid (HBZ.out.trans (BD.out.mono HBZ.out.size))
      have HBA := Lib.hid (HBD.out.trans (BA.out.mono HBD.out.size))
      have HSD := Lib.hid HBD.out.size
      have HSA := Lib.hid HBA.out.size
      have HZS := Lib.hid (show w.heap.size + 1 ≤ wz.drew.heap.size from Nat.le_trans hsz BZ.out.size)
      have G1 := Lib.hid ((HG.out.below BZ.out).below BD.out)
      have G2 := Lib.hid (G1.out.below BA.out)
      have hkl : k < ns.length := by rw [HL'.out]; exact hlt
      have WL := Lib.hid (show (Lit.int .i64 (Tr.l ns k)).wf = true from Go.WalkArith.wf_i64 (WF'.out k).1)
      have WD := Lib.hid (show (Lit.int .i64 (Tr.d ns k)).wf = true from Go.WalkArith.wf_i64 (WF'.out k).2)
      have LN := Lib.hid (show (Cp.out ns (Tr.l ns k) k).length + 1 ≤ 1073741824 by have := Cp.out_len ns (Tr.l ns k) k; omega)
      obtain ⟨v1, hr1, ho1, hb1⟩ := G1.out.look (by unfold maxLen; omega) WL.out
      obtain ⟨v2, hr2, ho2, hb2⟩ := G2.out.look (by unfold maxLen; omega) WL.out
      have HO1 := Lib.hid ho1
      have HO2 := Lib.hid ho2
      have HK1 := Lib.hid hb1
      have HK2 := Lib.hid hb2
      have hpz : wz.heap[wr.heap.size]? = some (.cells #[.int .i64 (Tr.l ns k), .int .i64 (Tr.d ns k)] 55) := by rw [hwz]; exact (MapKept.heap_alloc wr _).1
      have hlz : wr.heap.size < wz.heap.size := by rw [hwz]; simp
      have N1 := Lib.hid (gp_off ho1 (show wz.drew.heap[wr.heap.size]? = _ from hpz) (by decide))
      have N2 := Lib.hid (gp_off ho2 (show (wz.alloc (.cells #[.int .i64 (Tr.d ns k)] 3)).heap[wr.heap.size]? = _ from (Below.heap_alloc wz _ _ hlz).trans hpz) (by decide))
      have HLZ := Lib.hid (show wr.heap.size < (wz.alloc (.cells #[.int .i64 (Tr.d ns k)] 3)).heap.size by simp; omega)
      have k0 : (0 : Int) ≤ (k : Int) := by omega
      have k1 : (k : Int) < (n' : Int) := by omega
      have r2 : (wz.alloc (.cells #[.int .i64 (Tr.d ns k)] 3)).cell? ⟨wr.heap.size, 0, none⟩ = some (.int .i64 (Tr.l ns k)) := (((Below.refl wz.heap.size wz).alloc (Nat.le_refl _) _).cell (World.block_lt_of_cell? _ _ r0)).trans r0
      have R2 := Lib.hid r2
      have HZ := Lib.hid hwz
      clear hpz hlz
      clear hwz ho1 ho2 hb1 hb2 hkl
      go_wp2_with fail
      rw [← HZ.out]
      clear lc ld
      go_region_law (first | (refine step_append_at wz.drew rfl _ _ 25 rfl (w.heap.size + 1) 3 i0 Try.underlying25 hi hz0 hz1 hz2 v1 (Cp.out ns (Tr.l ns k) k) (Tr.d ns k) WD.out rfl (HO1.out.alloc _) rfl LN.out HZS.out ?_; intro v' w3 ho3 hg3 hl3; have r3 : w3.cell? ⟨wr.heap.size, 0, none⟩ = some (.int .i64 (Tr.l ns k)) := (hg3.cell_far ⟨wr.heap.size, 0, none⟩ HLZ.out N1.out).trans R2.out; obtain ⟨w4, hr4, HG4, hg4⟩ := HK1.out (by trivial) w3 v' ((World.grownBy_alloc _ _ _).trans hg3) ho3 (hl3.imp id (fun h => ⟨_, h, Nat.le_succ _⟩)); have HE := Lib.hid (HBD.out.groups HO1.out ((World.grownBy_alloc _ _ _).trans hg3) hg4 HSD.out (Nat.le_succ _) (Nat.le_refl _))) | (refine step_append_at wz.drew rfl _ _ 25 rfl (w.heap.size + 1) 3 i0 Try.underlying25 hi hz0 hz1 hz2 v2 (Cp.out ns (Tr.l ns k) k) (Tr.d ns k) WD.out rfl HO2.out rfl LN.out HZS.out ?_; intro v' w3 ho3 hg3 hl3; have r3 : w3.cell? ⟨wr.heap.size, 0, none⟩ = some (.int .i64 (Tr.l ns k)) := (hg3.cell_far ⟨wr.heap.size, 0, none⟩ HLZ.out N2.out).trans R2.out; obtain ⟨w4, hr4, HG4, hg4⟩ := HK2.out (by trivial) w3 v' hg3 ho3 (hl3.imp id (fun h => ⟨_, h, by simp⟩)); have HE := Lib.hid (HBA.out.groups HO2.out hg3 hg4 HSA.out (Nat.le_succ _) (Nat.le_refl _))))
      all_goals
        go_wp2
        go_roundw
        case rel => exact ⟨k + 1, by omega, by go_num, HG4, HE.out, Nat.le_trans HZS.out (by have := hg3.size; have := hg4.size; simp at *; omega)⟩
        case measure => simp [intOf]; omega
    · obtain rfl : n' = k := by omega
      obtain ⟨w1, hw1⟩ : ∃ w1, w1 = wr := ⟨_, rfl⟩
      rw [← hw1] at HG HB hsz
      have HSZ := Lib.hid hsz
      obtain ⟨j0, hj, hy0, hy1, hy2⟩ := info_parts info_prCI
      have EN := Lib.hid HL'.out
      have HW1 := Lib.hid hw1
      clear hsz hw1
      go_wp2
      rw [← HW1.out]
      go_loopw [34, 8] (fun kv ov wq => ∃ i : Nat, i ≤ n ∧ kv = .int .i64 i ∧ wq.ownsRow w1.heap.size 55 2 ov (Cp.to ms ns i).length (Tr.cells (Cp.to ms ns i)) ∧ Below w1.heap.size w1 wq) (fun k _ _ => n - (intOf k).toNat)
      case atStart => exact ⟨0, by omega, rfl, own_nil, Below.refl _ _⟩
      case round =>
        obtain ⟨i, hi1, rfl, hown, hB1⟩ := hrel
        have Ho := Lib.hid hown
        have HB1 := Lib.hid hB1
        clear hown hB1
        by_cases hlt : i < n
        · obtain ⟨ad, rfl, _, la, da⟩ := (H.out.to_below (HB.out.trans (HB1.out.mono HB.out.size))).at_ (k := i) hlt
          obtain ⟨wz, hwz⟩ : ∃ wz, wz = wr.alloc (.cells #[.int .i64 (Tr.l ms i), .int .i64 (Tr.d ms i)] 55) := ⟨_, rfl⟩
          have BZ := Lib.hid (show Below wr.heap.size wr wz by rw [hwz]; exact (Below.refl _ _).alloc (Nat.le_refl _) _)
          have HBZ := Lib.hid (HB1.out.trans (BZ.out.mono HB1.out.size))
          have BX := Lib.hid (show Bx2 wz wr.heap.size (Tr.l ms i) (Tr.d ms i) by rw [hwz]; exact Bx2.made _ _ _ _)
          have WM := Lib.hid (show (Lit.int .i64 (Tr.d ms i)).wf = true from Go.WalkArith.wf_i64 (WF.out i).2)
          obtain ⟨v, hrun, hov, _⟩ := (HG.out.below HBZ.out).look (by unfold maxLen; omega) WM.out
          obtain ⟨zs, hzs⟩ : ∃ zs, zs = Cp.out ns (Tr.d ms i) n' := ⟨_, rfl⟩
          rw [← hzs] at hov
          have hzl : zs.length ≤ 1048576 := by rw [hzs]; exact Nat.le_trans (Cp.out_len _ _ _) hn'
          have HT := Lib.hid (show Cp.to ms ns (i + 1) = Cp.to ms ns i ++ Cp.row (Tr.l ms i) zs by rw [Cp.to, hzs, EN.out])
          have HTL := Lib.hid (show (Cp.to ms ns i).length ≤ 1099511627776 from Cp.to_bound ms ns (by omega) (by rw [EN.out]; exact hn'))
          obtain ⟨A3, c3, rfl⟩ := own_slice hov.1
          have HV := Lib.hid hov
          have HOZ := Lib.hid (own_below Ho.out BZ.out)
          have LZ := Lib.hid (show wr.heap.size < wz.heap.size by rw [hwz]; simp)
          have HPB := Lib.hid (show wz.heap[wr.heap.size]? = some (.cells #[.int .i64 (Tr.l ms i), .int .i64 (Tr.d ms i)] 55) by rw [hwz]; exact (MapKept.heap_alloc wr _).1)
          have NE := Lib.hid (show u8.ownBlock ≠ some wr.heap.size from fun h => by have := (Ho.out.lt _ h).2; omega)
          obtain ⟨p0, p1⟩ := id BX.out
          have HZ := Lib.hid hwz
          have HZL := Lib.hid hzl
          have hi0 : (0 : Int) ≤ (i : Int) := by omega
          have hilt : (i : Int) < (n : Int) := by omega
          rw [hwz] at hrun
          clear hwz hov hzs hzl
          obtain ⟨pb, hpb⟩ : ∃ pb, pb = wr.heap.size := ⟨_, rfl⟩
          have HPE := Lib.hid hpb
          go_wp2_with fail
          rw [← HZ.out]
          clear la da hrun
          rw [← hpb] at BX NE LZ ⊢
          clear hpb
          go_loopw [43, 8] (fun kv ov wq => ∃ q : Nat, q ≤ zs.length ∧ kv = .int .i64 q ∧ wq.ownsRow w1.heap.size 55 2 ov (Cp.to ms ns i ++ Cp.row (Tr.l ms i) (zs.take q)).length (Tr.cells (Cp.to ms ns i ++ Cp.row (Tr.l ms i) (zs.take q))) ∧ wq.ownsInts (w.heap.size + 1) 3 .i64 (.slice A3 zs.length c3) zs ∧ Bx2 wq pb (Tr.l ms i) (Tr.d ms i) ∧ ov.ownBlock ≠ some pb ∧ Below w1.heap.size w1 wq ∧ pb < wq.heap.size) (fun k _ _ => zs.length - (intOf k).toNat)
          case atStart => exact ⟨0, by omega, rfl, by rw [show Cp.row (Tr.l ms i) (zs.take 0) = [] by rfl, List.append_nil]; exact HOZ.out, HV.out, BX.out, NE.out, HBZ.out, LZ.out⟩
          case round =>
            clear HZ HOZ HV BX NE HBZ LZ p0 p1
            obtain ⟨q, hq1, rfl, hown, hov, hbx, hne, hB2, hlz⟩ := hrel
            have HOq := Lib.hid hown
            have HVq := Lib.hid hov
            have HBq := Lib.hid hB2
            have HXq := Lib.hid hbx
            have HNq := Lib.hid hne
            have HLq := Lib.hid hlz
            clear hown hov hB2 hbx hne hlz
            by_cases hlt2 : q < zs.length
            · obtain ⟨g, rfl, _, hgl⟩ := own_form HVq.out.1 (by omega)
              have hc := own_int (zs := zs) HVq.out.1 (k := q) hlt2
              obtain ⟨p0, p1⟩ := id HXq.out
              have hq0 : (0 : Int) ≤ (q : Int) := by omega
              have hqlt : (q : Int) < (zs.length : Int) := by omega
              have HT2 := Lib.hid (show (Cp.to ms ns i ++ Cp.row (Tr.l ms i) (zs.take (q + 1))) = (Cp.to ms ns i ++ Cp.row (Tr.l ms i) (zs.take q)) ++ [(Tr.l ms i, Zs.at zs q)] by
                rw [Cp.row_take _ _ hlt2, List.append_assoc]; rfl)
              have HLX := Lib.hid (show (Cp.to ms ns i ++ Cp.row (Tr.l ms i) (zs.take q)).length + 1 ≤ 4398046511104 by
                have := HTL.out; have := HZL.out; rw [List.length_append, Cp.row_len, List.length_take]; omega)
              obtain ⟨X, hX⟩ : ∃ X, X = (Cp.to ms ns i ++ Cp.row (Tr.l ms i) (zs.take q)) := ⟨_, rfl⟩
              rw [← hX] at HOq HT2 HLX
              obtain ⟨z, hz⟩ : ∃ z, z = Zs.at zs q := ⟨_, rfl⟩
              rw [← hz] at HT2 hc
              have hszq := HBq.out.size
              have hzl2 := HZL.out
              clear hX hz hgl
              go_wp2_with (at_builtin; go_loud (refine append_pair_at wr rfl _ _ 43 rfl w1.heap.size 55 j0 Try.underlying43 hj hy0 hy1 hy2 u8 X.length X rfl HOq.out rfl (Tr.l ms i) z rfl HLX.out hszq ?_); intro v' w3 hown3 hgrow3 hlie3)
              have hb3 := Kit.below_own HBq.out HOq.out hgrow3
              have hgr := (World.grownBy_alloc wr (.cells #[.int .i64 (Tr.l ms i), .int .i64 z] 55) u8.ownBlock).trans hgrow3
              have hov3 := HVq.out.kept hgr (comNe HVq.out.1 HOq.out (by decide))
              have hx3 : Bx2 w3 pb (Tr.l ms i) (Tr.d ms i) := ⟨hgr.cell HXq.out.1 (fun e => HNq.out e.symm), hgr.cell HXq.out.2 (fun e => HNq.out e.symm)⟩
              have hn3 : v'.ownBlock ≠ some pb := by
                rcases hlie3 with h | h
                · rw [h]; exact HNq.out
                · rw [h]; intro e; have e2 := Option.some.inj e; have := HLq.out; omega
              go_roundw
              case rel => exact ⟨q + 1, by omega, by go_num, by rw [HT2.out]; exact hown3, hov3, hx3, hn3, hb3, Nat.lt_of_lt_of_le HLq.out hgr.size⟩
              case measure => simp [intOf]; omega
            · obtain rfl : q = zs.length := by omega
              rw [List.take_length] at HOq
              go_wp2
              go_roundw
              case rel => exact ⟨i + 1, by omega, by go_num, by rw [HT.out]; exact HOq.out, HBq.out⟩
              case measure => simp [intOf]; omega
        · obtain rfl : n = i := by omega
          have Ht := Lib.hid (show Cp.to ms ns n = Cp.all ms ns by unfold Cp.all; rw [HL.out])
          rw [Ht.out] at Ho
          have Ho2 := Lib.hid (own_base Ho.out HB.out.size)
          obtain ⟨A2, c2, rfl⟩ := own_slice Ho2.out
          go_wp2
          go_ret
          exact ⟨A2, c2, rfl, Ho2.out, HB.out.trans (HB1.out.mono HB.out.size)⟩

end Go.Proofs.Ytlndaflhlkbedaa
