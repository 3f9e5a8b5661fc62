/- Texts of one claim laid into one file, in build order: GroI, AppG, ConI, Bxc, Cbx, Rgn, RmI. -/
import Derived.Test.YtgkkeejhfofcaaaHe1
import Derived.Test.YtgkkeejhfofcaaaHe14
import Derived.Test.YtgkkeejhfofcaaaHe2
import Derived.Test.YtgkkeejhfofcaaaHe7
import Derived.Deep.RegionHeld3
import Derived.Laws.AppendOwnNone
import Derived.Lib.AppendZerosOnto
import Derived.Lib.SliceRun
import Derived.Lib.Walk
import Derived.Shelf.RegionOpenPlain
import Derived.WalkKit
/- Contracts (GroI). -/
namespace Go.Proofs.Ytgkkeejhfofcaaa
open Go.RowKit
set_option linter.unusedVariables false

set_option maxHeartbeats 800000 in
set_option maxRecDepth 100000 in
theorem growNodes_any (n : Nat) (w : World) (h0 : 0 < n) (hn : n ≤ 1048576) :
    Calls Try.prog 165 #[.slice none 0 0, .int .i64 (n : Int)] w fun e w' => ∃ G, e = .returned (.slice (some ⟨w.heap.size, 0, none⟩) 0 G) ∧ w'.ownsRow w.heap.size 47 2 (.slice (some ⟨w.heap.size, 0, none⟩) 0 G) 0 [] ∧ Below w.heap.size w w' := by
  obtain ⟨i0, hi0, hz0, hz1, hz2⟩ := info_parts info_ndC
  have hrz : ∀ ty, (Builtin.append_ #[24, 3] ty #[.slice none 0 0, .int .i64 (n : Int)]).run Try.prog w =
      .ok (.slice (some ⟨w.heap.size, 0, none⟩) n (grownCap w n 0 47)) (w.drew.alloc (.cells (#[] ++ Builtin.zeroCells (Value.agg #[.int .i64 0, .int .i64 0]).cells n ++ Builtin.zeroCells (Value.agg #[.int .i64 0, .int .i64 0]).cells (grownCap w n 0 47 - n)) 47)) := fun ty => by
    have h := Lib.run_append_grow_zeros w 24 3 ty 47 i0 (.agg #[.int .i64 0, .int .i64 0]) .i64 .i64 Try.underlying24 Try.underlying3 hi0 hz0 none 0 0 [] (run_firstCells_none w.drew i0.size 0 0 0) n h0 (by omega) (by omega) (by omega) (by rw [hz2]; omega) (growslice_fits (by omega) (by rw [hz2]; omega))
    simpa using h
  have hGn : n ≤ grownCap w n 0 47 := grownCap_ge w _ _ _
  have hGm := grownCap_le_maxLen w n 0 47 (by unfold maxLen; omega)
  obtain ⟨G, hG⟩ : ∃ G, G = grownCap w n 0 47 := ⟨_, rfl⟩
  rw [← hG] at hrz hGn hGm
  have hG63 : G ≤ 9223372036854775807 := by unfold maxLen at hGm; omega
  clear hG
  obtain ⟨cs, hcs⟩ : ∃ cs : Array Value, cs = #[] ++ Builtin.zeroCells (Value.agg #[.int .i64 0, .int .i64 0]).cells n ++ Builtin.zeroCells (Value.agg #[.int .i64 0, .int .i64 0]).cells (G - n) := ⟨_, rfl⟩
  rw [← hcs] at hrz
  have hsz : cs.size = G * 2 := by
    have h2 : (Value.agg #[.int .i64 0, .int .i64 0]).cells.size = 2 := rfl
    rw [hcs]; simp [Builtin.zeroCells]; rw [h2]; omega
  have h1 : ¬ ((n : Int) < 0) := by omega
  have h2 : IntKind.i64.wrap ((n : Int) - 0) = (n : Int) := by rw [Int.sub_zero]; exact Kit.w64 (by omega) (by omega)
  have HS := Lib.hid hsz
  have HM := Lib.hid hGm
  clear hcs hsz hGm
  go_enter Try.func165, Try.ntmps165
  go_wp2_with (at_builtin; refine Lib.wpList_append_run _ rfl _ _ _ _ rfl _ _ rfl rfl _ _ (hrz _) ?_)
  go_ret
  exact ⟨G, rfl, ⟨rfl, .inr ⟨_, G, cs, rfl, Nat.le_refl _, heap_alloc_new _ _, Nat.zero_le _, HM.out, HS.out, by simp⟩⟩, (Drawn.refl _).drew.toBelow.alloc (Nat.le_refl _) _⟩

end Go.Proofs.Ytgkkeejhfofcaaa

/- Contracts (AppG). -/
namespace Go.Proofs.Ytgkkeejhfofcaaa
open Go.RowKit
set_option linter.unusedVariables false

section
variable {P : Program} {ops : Array Oper} {rest : List Oper} {o : Oper} {a : Act} {Q : Exit → Act → World → Prop}
/-- out = append(out, ys...), out a row of the call's own, ys a row that stands -/
theorem append_own_own (w : World) (hgd : o.guard = none) (s x : Operand) (t : TypeId)
    (ho : o.op = .call { callee := .builtin .append, args := #[s, x], argTypes := #[t, t] })
    (base : Nat) (e : TypeId) (i : TypeInfo) (z : Value) (size bytes : Nat) (ht : P.underlying t = some (.slice e)) (hi : P.info? e = some i) (hz : i.zero = some z)
    (hsize : i.size = size) (hby : i.bytes = bytes) (hzs : z.cells.size = size) (hsz : 0 < size)
    (v : Value) (n : Nat) (xs : List Value) (hs : a.eval s = v) (hown : w.ownsRow base e size v n xs)
    (b2 : Nat) (e2 : TypeId) (u : Value) (m : Nat) (ys : List Value) (hx : a.eval x = u) (hsrc : w.ownsRow b2 e2 size u m ys) (h1 : ∀ u ∈ ys, u.oneCell' = true)
    (h63 : n + m ≤ maxLen) (hbytes : (n + m) * bytes ≤ 140737488355328) (hbase : base ≤ w.heap.size)
    (h : ∀ v' w', w'.ownsRow base e size v' (n + m) (xs ++ ys) → w.grownBy w' v.ownBlock → wpList P ops Q rest (a.put o.dst v') w') : wpList P ops Q (o :: rest) a w := by
  rcases hsrc.2 with ⟨rfl, rfl⟩ | ⟨g, cap, cur, rfl, _⟩
  · have hy : ys = [] := List.length_eq_zero_iff.1 (by have := hsrc.1; omega)
    subst hy
    exact wpList_append_own_none hgd s x t ho base e i size ht hi v n xs hs hown hx (h v w (by simpa using hown) (World.grownBy.refl _ _))
  · exact wpList_append_own w hgd s x t ho base e i z size bytes ht hi hz hsize hby hzs hsz v n xs hs hown ⟨g, 0, none⟩ m cap ys hx hsrc.1 (fun j u hj => by
      have hj' := (List.getElem?_eq_some_iff.1 hj).1
      have := hsrc.cellAt j (by rw [← hsrc.1]; exact hj')
      rw [hj] at this
      have ea : (⟨g, 0, none⟩ : Addr).add j = ⟨g, j, none⟩ := by unfold Addr.add; split <;> simp_all
      rw [ea]
      exact this) h1 h63 hbytes hbase (fun v' w' h2 h3 _ => h v' w' h2 h3)
end
theorem ints_one (zs : List Int) : ∀ u ∈ ints zs, u.oneCell' = true := fun u hu => by
  unfold ints at hu
  obtain ⟨z, _, rfl⟩ := List.mem_map.1 hu
  rfl

end Go.Proofs.Ytgkkeejhfofcaaa

/- Contracts (ConI). -/
namespace Go.Proofs.Ytgkkeejhfofcaaa
open Go.RowKit
set_option linter.unusedVariables false

/-- the i-th of some slices of nodes that stand in a row reads as the i-th list -/
def SlsIn (w : World) (b m : Nat) (vs : List Value) (xss : List Tr) : Prop :=
  xss.length = m ∧ ∀ i, i < m → w.cell? ⟨b, i, none⟩ = some (vs.getD i undef) ∧ ∃ A c, vs.getD i undef = .slice A (xss.getD i []).length c ∧ NdIn w w.heap.size A (xss.getD i []).length (xss.getD i []) ∧ (A = none → (xss.getD i []).length = 0 ∧ c = 0)
theorem SlsIn.to_below {w w' : World} {b m : Nat} {vs : List Value} {xss : List Tr} (h : SlsIn w b m vs xss) (hb : Below w.heap.size w w') : SlsIn w' b m vs xss := by
  refine ⟨h.1, fun i hi => ?_⟩
  obtain ⟨c1, A, c, e, hn, h0⟩ := h.2 i hi
  exact ⟨(hb.cell (World.block_lt_of_cell? _ _ c1)).trans c1, A, c, e, hn.to_below hb, h0⟩
theorem flat_step (xss : List Tr) (k : Nat) (hk : k < xss.length) : (xss.take (k + 1)).flatten = (xss.take k).flatten ++ xss.getD k [] := by
  rw [List.take_succ_eq_append_getElem hk, List.flatten_append]
  simp [List.getD_eq_getElem?_getD, hk]
theorem flat_le (xss : List Tr) (k : Nat) : (xss.take k).flatten.length ≤ xss.flatten.length := by
  conv => rhs; rw [← List.take_append_drop k xss, List.flatten_append, List.length_append]
  omega
set_option maxHeartbeats 800000 in
set_option maxRecDepth 100000 in
theorem concatNodes_any (b m : Nat) (c : Nat) (vs : List Value) (xss : List Tr) (w : World) (h : SlsIn w b m vs xss) (hm : m ≤ 1000) (h0 : 0 < xss.flatten.length) (hl : xss.flatten.length ≤ 1048576) :
    Calls Try.prog 134 #[.slice (some ⟨b, 0, none⟩) m c] w (OwnNodes 47 xss.flatten w) := by
  have H := Lib.hid h
  have HM := Lib.hid h.1
  obtain ⟨P, hP⟩ : ∃ P : Nat → Tr, P = fun k => (xss.take k).flatten := ⟨_, rfl⟩
  obtain ⟨R, hR⟩ : ∃ R : Tr, R = xss.flatten := ⟨_, rfl⟩
  have HF := Lib.hid (show ∀ k, k < m → P (k + 1) = P k ++ xss.getD k [] from fun k hk => by rw [hP]; exact flat_step xss k (by rw [h.1]; exact hk))
  have HFL := Lib.hid (show ∀ k, (P k).length ≤ R.length from fun k => by rw [hP, hR]; exact flat_le xss k)
  have HFA := Lib.hid (show P m = R by rw [hP, hR]; show (xss.take m).flatten = _; rw [List.take_of_length_le (by rw [h.1]; exact Nat.le_refl _)])
  have HF0 := Lib.hid (show P 0 = [] by rw [hP]; rfl)
  rw [← hR] at h0 hl ⊢
  clear hP hR
  obtain ⟨i0, hi, hz0, hz1, hz2⟩ := info_parts info_ndC
  clear h
  go_enter Try.func134, Try.ntmps134
  go_wp2
  go_loop [11, 3] (fun kv sv => ∃ k : Nat, k ≤ m ∧ kv = .int .i64 k ∧ sv = .int .i64 (((P k).length : Nat) : Int)) (fun k _ => m - (intOf k).toNat)
  case atStart => exact ⟨0, by omega, by go_num, by rw [HF0.out]; rfl⟩
  case round =>
    obtain ⟨k, hk, rfl, rfl⟩ := hrel
    by_cases hlt : k < m
    · obtain ⟨c1, A, cc, e, hn, hz⟩ := H.out.2 k hlt
      rw [e] at c1
      have hs := HF.out k hlt
      have hls := HFL.out (k + 1)
      have k0 : (0 : Int) ≤ (k : Int) := by omega
      have k1 : (k : Int) < (m : Int) := by omega
      obtain ⟨s, hs'⟩ : ∃ s, s = (P k).length := ⟨_, rfl⟩
      obtain ⟨z, hz'⟩ : ∃ z, z = (xss.getD k []).length := ⟨_, rfl⟩
      rw [hs, List.length_append, ← hs', ← hz'] at hls
      have Hs := Lib.hid (show (((P (k + 1)).length : Nat) : Int) = (s : Int) + (z : Int) by rw [hs, List.length_append, ← hs', ← hz']; omega)
      rw [← hs']
      rw [← hz'] at c1
      have a5 : IntKind.i64.wrap ((s : Int) + (z : Int)) = (s : Int) + (z : Int) := Kit.w64 (by omega) (by omega)
      have q : decide ((s : Int) + (z : Int) < 0) = false := decide_eq_false (by omega)
      clear hs hs' hz' hn hz e
      go_wp2
      go_round
      case rel => exact ⟨k + 1, by omega, by go_num, by rw [Hs.out]⟩
      case measure => simp [intOf]; omega
    · obtain rfl : k = m := by omega
      rw [HFA.out]
      go_wp2_with fail
      refine (growNodes_any _ _ h0 hl).mono ?_
      rintro e w2 ⟨G, rfl, ho2, hb2⟩
      have Ho2 := Lib.hid ho2
      have Hb2 := Lib.hid hb2
      clear ho2 hb2
      go_wp2
      go_loopw [27, 6] (fun kv sv wq => ∃ j : Nat, j ≤ k ∧ kv = .int .i64 j ∧ wq.ownsRow w.heap.size 47 2 sv (P j).length (Tr.cells (P j)) ∧ Below w.heap.size w wq) (fun j _ _ => k - (intOf j).toNat)
      case atStart => exact ⟨0, by omega, by go_num, by rw [HF0.out]; exact Ho2.out, Hb2.out⟩
      case round =>
        obtain ⟨j, hj, rfl, hown, hB⟩ := hrel
        have Ho := Lib.hid hown
        have HB := Lib.hid hB
        have hsz := hB.size
        clear hown hB
        by_cases hlt : j < k
        · obtain ⟨c1, A, cc, e, hn, hz⟩ := (H.out.to_below HB.out).2 j hlt
          rw [e] at c1
          have k0 : (0 : Int) ≤ (j : Int) := by omega
          have k1 : (j : Int) < (k : Int) := by omega
          have hs := HF.out j hlt
          have hls := HFL.out (j + 1)
          rw [hs, List.length_append] at hls
          have Hs := Lib.hid hs
          have Hn := Lib.hid hn
          obtain ⟨z, hz'⟩ : ∃ z, z = (xss.getD j []).length := ⟨_, rfl⟩
          rw [← hz'] at c1 hls hz
          have Hz' := Lib.hid hz'
          have Hz := Lib.hid hz
          clear hs hn hz' e hz
          cases A with
          | none =>
            obtain ⟨hz0', rfl⟩ := Hz.out rfl
            subst hz0'
            have hnil := Lib.hid (show xss.getD j [] = [] from List.length_eq_zero_iff.1 Hz'.out.symm)
            go_wp2_with (at_builtin; go_loud (refine wpList_append_own_none rfl _ _ 24 rfl w.heap.size 47 i0 2 Try.underlying24 hi u6 (P j).length (Tr.cells (P j)) rfl Ho.out rfl ?_))
            go_roundw
            case rel => exact ⟨j + 1, by omega, by go_num, by rw [Hs.out, hnil.out, List.append_nil]; exact Ho.out, HB.out⟩
            case measure => simp [intOf]; omega
          | some ad =>
            have HC := Lib.hid (show (Tr.cells (xss.getD j [])).length = z * 2 by rw [Tr.cells_length, ← Hz'.out])
            have HN2 := Lib.hid (Hn.out.cells_at)
            go_wp2_with (at_builtin; go_loud (refine wpList_append_own _ rfl _ _ 24 rfl w.heap.size 47 i0 (.agg #[.int .i64 0, .int .i64 0]) 2 16 Try.underlying24 hi hz0 hz1 hz2 rfl (by decide) u6 (P j).length (Tr.cells (P j)) rfl Ho.out ad z cc (Tr.cells (xss.getD j [])) rfl HC.out HN2.out (Tr.cells_cell _) (by unfold maxLen; omega) (by omega) hsz ?_; intro v3 w3 hown3 hgr3 _))
            have Ho3 := Lib.hid hown3
            have hb3 := HB.out.grown hgr3 hsz (fun g hg => (Ho.out.lt g hg).1)
            have HB3 := Lib.hid hb3
            clear hown3 hgr3 hb3
            go_roundw
            case rel => exact ⟨j + 1, by omega, by go_num, by rw [Hs.out, List.length_append, ← Hz'.out, Tr.cells_append]; exact Ho3.out, HB3.out⟩
            case measure => simp [intOf]; omega
        · obtain rfl : j = k := by omega
          rw [HFA.out] at Ho
          obtain ⟨A', c', rfl⟩ := own_slice Ho.out
          go_wp2
          go_ret
          exact ⟨A', c', rfl, Ho.out, HB.out⟩

end Go.Proofs.Ytgkkeejhfofcaaa

/- Contracts (Bxc). -/
namespace Go.Proofs.Ytgkkeejhfofcaaa
open Go.RowKit
set_option linter.unusedVariables false

/-- below a world's blocks nothing has turned -/
def BelA (w wq : World) : Prop := Below w.heap.size w wq
section
variable {wa wx wy : World} {b : Nat} {v0 v1 v2 : Value}
end

end Go.Proofs.Ytgkkeejhfofcaaa

/- Contracts (Cbx). -/
namespace Go.Proofs.Ytgkkeejhfofcaaa
open Go.RowKit
set_option linter.unusedVariables false

section
variable {wa wx wy : World} {p0 : Addr} {v0 : Value}
end
section
variable {wa wx wy : World} {p0 p1 : Addr} {v0 v1 : Value}
theorem c2_below (h : wx.cell? p0 = some v0 ∧ wx.cell? p1 = some v1 ∧ BelA wa wx) : Below wa.heap.size wa wx := h.2.2
theorem c2_keep (h : wx.cell? p0 = some v0 ∧ wx.cell? p1 = some v1 ∧ BelA wa wx) (hb : Below wx.heap.size wx wy) : wy.cell? p0 = some v0 ∧ wy.cell? p1 = some v1 ∧ BelA wa wy := by
  have c : ∀ {p : Addr} {v : Value}, wx.cell? p = some v → wy.cell? p = some v := fun hc => (hb.cell (World.block_lt_of_cell? _ _ hc)).trans hc
  exact ⟨c h.1, c h.2.1, h.2.2.trans (hb.mono h.2.2.size)⟩
end
section
variable {wa wx wy : World} {p0 p1 p2 : Addr} {v0 v1 v2 : Value}
theorem c3_keep (h : wx.cell? p0 = some v0 ∧ wx.cell? p1 = some v1 ∧ wx.cell? p2 = some v2 ∧ BelA wa wx) (hb : Below wx.heap.size wx wy) : wy.cell? p0 = some v0 ∧ wy.cell? p1 = some v1 ∧ wy.cell? p2 = some v2 ∧ BelA wa wy := by
  have c : ∀ {p : Addr} {v : Value}, wx.cell? p = some v → wy.cell? p = some v := fun hc => (hb.cell (World.block_lt_of_cell? _ _ hc)).trans hc
  exact ⟨c h.1, c h.2.1, c h.2.2.1, h.2.2.2.trans (hb.mono h.2.2.2.size)⟩
end
section
variable {wa wx wy : World} {p0 p1 p2 p3 : Addr} {v0 v1 v2 v3 : Value}
end
section
variable {wa wx wy : World} {p0 p1 p2 p3 p4 : Addr} {v0 v1 v2 v3 v4 : Value}
theorem c5_keep (h : wx.cell? p0 = some v0 ∧ wx.cell? p1 = some v1 ∧ wx.cell? p2 = some v2 ∧ wx.cell? p3 = some v3 ∧ wx.cell? p4 = some v4 ∧ BelA wa wx) (hb : Below wx.heap.size wx wy) : wy.cell? p0 = some v0 ∧ wy.cell? p1 = some v1 ∧ wy.cell? p2 = some v2 ∧ wy.cell? p3 = some v3 ∧ wy.cell? p4 = some v4 ∧ BelA wa wy := by
  have c : ∀ {p : Addr} {v : Value}, wx.cell? p = some v → wy.cell? p = some v := fun hc => (hb.cell (World.block_lt_of_cell? _ _ hc)).trans hc
  exact ⟨c h.1, c h.2.1, c h.2.2.1, c h.2.2.2.1, c h.2.2.2.2.1, h.2.2.2.2.2.trans (hb.mono h.2.2.2.2.2.size)⟩
end

end Go.Proofs.Ytgkkeejhfofcaaa

/- Contracts (Rgn). -/
namespace Go.Proofs.Ytgkkeejhfofcaaa
open Go.RowKit
set_option linter.unusedVariables false

section
variable {P : Program} {md : Region.Mode} {ops : Array Oper} {Q : Exit → Act → World → Prop} {S : World → Prop} {i fuel : Nat} {oi : Oper} {rest : List Oper} {listed : Array Bool} {a : Act} {w : World}
theorem rg_at (hd : ops.toList.drop i = oi :: rest) : ops[i]? = some oi := by
  have h : (ops.toList.drop i)[0]? = some oi := by rw [hd]; rfl
  rw [List.getElem?_drop] at h
  simpa using h
/-- .. wanted: taken first -/
theorem rg_take {v : Value} (hd : ops.toList.drop i = oi :: rest) (hs : Region.noSelect ops = true) (hf : Region.free md ops listed i = true) (hr : (Region.ready md ops listed).contains i = true)
    (hQ : ∀ c a w, Q (.panic c) (a.put oi.dst v) w → Q (.panic c) a w) (hw : Region.wanted oi (yielded ops a.tmps) = true) (hy : ∀ w, S w → (execOp a.eval oi).run P w = .ok (.value v) w) (hS : S w)
    (h : wpAnyH P md ops Q S fuel (listed.setIfInBounds i true) (a.put oi.dst v) w) : wpAnyH P md ops Q S (fuel + 1) listed a w :=
  wpAnyH_take (rg_at hd) hs hf hr hQ (.inl ⟨hw, hy⟩) hS h
end

end Go.Proofs.Ytgkkeejhfofcaaa

/- Contracts (RmI). -/
namespace Go.Proofs.Ytgkkeejhfofcaaa
open Go.RowKit
set_option linter.unusedVariables false

theorem Tr.sh_cut (xs : Tr) {f m : Nat} (h : f + m ≤ xs.length) : (xs.drop f).take m = Tr.sh xs f (f + m) 0 := by
  rw [← Tr.up_none ((xs.drop f).take m) 0]
  unfold Tr.up Tr.sh
  have hl : ((xs.drop f).take m).length = m := by simp; omega
  rw [hl, show f + m - f = m by omega]
  refine List.map_congr_left fun t ht => ?_
  have ht := List.mem_range.1 ht
  have hg : ((xs.drop f).take m).getD t (0, 0) = xs.getD (f + t) (0, 0) := by simp [List.getD_eq_getElem?_getD, ht]
  rw [if_neg (by omega)]
  simp only [Tr.l, Tr.d, hg, Int.add_zero]
theorem Tr.sh_up (xs : Tr) (dd : Int) {f m : Nat} (h : f + m ≤ xs.length) : Tr.up ((xs.drop f).take m) dd m = Tr.sh xs f (f + m) dd := by
  rw [Tr.up_cut xs dd h]
  unfold Tr.sh
  rw [show f + m - f = m by omega]
theorem Tr.cells_set_even (xs : Tr) (k : Nat) (b : Int) : (Tr.cells xs).set (k * 2) (.int .i64 b) = Tr.cells (xs.set k (b, Tr.d xs k)) := by
  induction xs generalizing k with
  | nil => simp [Tr.cells]
  | cons x l ih =>
    cases k with
    | zero => simp [Tr.cells, Tr.d]
    | succ k =>
      have := ih k
      simp only [Tr.cells, Tr.d] at this ⊢
      simpa [show (k + 1) * 2 = k * 2 + 1 + 1 by omega] using this
theorem NdIn.none {w : World} {B : Nat} {A : Option Addr} : NdIn w B A 0 [] := ⟨rfl, fun h => absurd h (Nat.lt_irrefl 0), fun ad _ k hk => absurd hk (Nat.not_lt_zero k)⟩
set_option maxHeartbeats 800000 in
set_option maxRecDepth 100000 in
theorem implRelabel_any (ad : Addr) (n c : Nat) (xs : Tr) (i : Nat) (a : Int) (w : World) (h : NdIn w w.heap.size (some ad) n xs) (hn : n ≤ 1048576) (hi : i < n) :
    Calls Try.prog 76 #[.slice (some ad) n c, .int .i64 (i : Int), .int .i64 a] w (OwnNodes 47 (Oc.rel xs i a) w) := by
  have H := Lib.hid h
  clear h
  have HL := Lib.hid H.out.1
  go_enter Try.func76, Try.ntmps76
  go_wp2_with fail
  refine (cloneNode_any _ _ _ xs _ H.out hn).mono ?_
  rintro e w3 ⟨A3, c3, rfl, hown3, hb3⟩
  rw [HL.out] at hown3 ⊢
  obtain ⟨g, rfl, hg1, hg2⟩ := own_form hown3 (by omega)
  have c0 := own_even hown3 (k := i) (by rw [HL.out]; exact hi)
  have f0 := hown3.frozenAt (i * 2)
  have i0 : (0 : Int) ≤ (i : Int) := by omega
  have i1 : (i : Int) < (n : Int) := by omega
  have HO := Lib.hid (hown3.stored (i * 2) (.int .i64 a)).1
  rw [Tr.cells_set_even] at HO
  have HB := Lib.hid (hb3.setCell (p := ⟨g, i * 2, none⟩) (by exact hg1) (.int .i64 a))
  clear hown3 hb3
  go_wp2
  go_ret
  exact ⟨_, _, by rw [Oc.rel_len, HL.out]; rfl, by rw [Oc.rel_len, HL.out]; exact HO.out, HB.out⟩

end Go.Proofs.Ytgkkeejhfofcaaa
