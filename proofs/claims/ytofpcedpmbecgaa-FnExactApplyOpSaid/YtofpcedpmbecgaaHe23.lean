/- Texts of one claim laid into one file, in build order: OpH, NdPt, NdTo, NdSm, NdEq. -/
import Derived.Test.YtofpcedpmbecgaaHe1
import Derived.Test.YtofpcedpmbecgaaHe22
import Derived.Test.YtofpcedpmbecgaaHe3
import Derived.Test.YtofpcedpmbecgaaHe7
import Derived.Laws.Entries
import Derived.Laws.MakeOwn
import Derived.Outline
import Derived.StillTailTactics
import Derived.Test.YtofpcedpmbecgaaRows
/- Contracts (OpH). -/
namespace Go.Proofs.Ytofpcedpmbecgaa
open Go.RowKit
set_option linter.unusedVariables false

/-- a variable of five cells -/
def Bx5 (w : World) (b : Nat) (v0 v1 v2 v3 v4 : Value) : Prop := w.cell? ⟨b, 0, none⟩ = some v0 ∧ w.cell? ⟨b, 1, none⟩ = some v1 ∧ w.cell? ⟨b, 2, none⟩ = some v2 ∧ w.cell? ⟨b, 3, none⟩ = some v3 ∧ w.cell? ⟨b, 4, none⟩ = some v4
section
variable {w w' : World} {b B : Nat} {v0 v1 v2 v3 v4 : Value}
theorem Bx5.made (w : World) (v0 v1 v2 v3 v4 : Value) (T : TypeId) : Bx5 (w.alloc (.cells #[v0, v1, v2, v3, v4] T)) w.heap.size v0 v1 v2 v3 v4 := ⟨by simp, by simp, by simp, by simp, by simp⟩
theorem Bx5.free (w : World) (v0 v1 v2 v3 v4 : Value) (T : TypeId) (off : Nat) : (w.alloc (.cells #[v0, v1, v2, v3, v4] T)).frozen? ⟨w.heap.size, off, none⟩ = false := by simp
theorem Bx5.below (h : Bx5 w b v0 v1 v2 v3 v4) (hb : Below B w w') (hl : b < B) : Bx5 w' b v0 v1 v2 v3 v4 :=
  ⟨(hb.cell (p := ⟨b, 0, none⟩) hl).trans h.1, (hb.cell (p := ⟨b, 1, none⟩) hl).trans h.2.1, (hb.cell (p := ⟨b, 2, none⟩) hl).trans h.2.2.1, (hb.cell (p := ⟨b, 3, none⟩) hl).trans h.2.2.2.1, (hb.cell (p := ⟨b, 4, none⟩) hl).trans h.2.2.2.2⟩
theorem Bx5.lt (h : Bx5 w b v0 v1 v2 v3 v4) : b < w.heap.size := World.block_lt_of_cell? _ _ h.1
theorem Bx5.keep (h : Bx5 w b v0 v1 v2 v3 v4) (hb : Below w.heap.size w w') : Bx5 w' b v0 v1 v2 v3 v4 := h.below hb h.lt
theorem Bx5.other (h : Bx5 w b v0 v1 v2 v3 v4) {p : Addr} (hp : p.block ≠ b) (u : Value) : Bx5 (w.setCell p u) b v0 v1 v2 v3 v4 :=
  ⟨by rw [World.cell?_setCell_other _ _ _ _ (fun e => hp (congrArg Addr.block e))]; exact h.1, by rw [World.cell?_setCell_other _ _ _ _ (fun e => hp (congrArg Addr.block e))]; exact h.2.1, by rw [World.cell?_setCell_other _ _ _ _ (fun e => hp (congrArg Addr.block e))]; exact h.2.2.1, by rw [World.cell?_setCell_other _ _ _ _ (fun e => hp (congrArg Addr.block e))]; exact h.2.2.2.1, by rw [World.cell?_setCell_other _ _ _ _ (fun e => hp (congrArg Addr.block e))]; exact h.2.2.2.2⟩
end
theorem results_box1 {fn : Func} {p : Tmp} {ty : TypeId} (h : fn.results = #[.cell p ty]) (tmps : Array Value) (P : Program) (w : World) :
    (results fn tmps).run P w = ((asAddr (tmps.getD p undef)).run P w).andThen fun a w₁ => (loadVar ty a).run P w₁ := by
  simp only [results, h]
  simp [Sem.run_bind]
/-- a row stands where another block is written -/
theorem own_apart {w w' : World} {base n size : Nat} {e : TypeId} {u : Value} {xs : List Value} {row : Option Nat} (h : w.ownsRow base e size u n xs) (hg : w.grownBy w' row) (hne : u.ownBlock = none ∨ u.ownBlock ≠ row) : w'.ownsRow base e size u n xs := by
  refine ⟨h.1, ?_⟩
  rcases h.2 with h1 | ⟨g, cap, cur, hv, hb, hg', hr⟩
  · exact .inl h1
  · subst hv
    refine .inr ⟨g, cap, cur, rfl, hb, (hg.block g (Array.getElem?_eq_some_iff.1 hg').1 ?_).trans hg', hr⟩
    rcases hne with h | h
    · cases h
    · exact h
set_option maxHeartbeats 800000 in
set_option maxRecDepth 100000 in
theorem szOp_any (k a f z : Int) (P : Option Addr) (m q : Nat) (left : Int) (w : World) (hm : m ≤ 9223372036854775807) (h0 : 0 ≤ left) (h1 : left ≤ 1048576) :
    Calls Try.prog 44 #[.agg #[.int .i64 k, .slice P m q, .int .i64 a, .int .i64 f, .int .i64 z], .int .i64 left] w fun e w' => e = .returned (.int .i64 (if (m : Int) ≤ left then left - m else -1)) ∧ Below w.heap.size w w' := by
  have HB := Lib.hid ((Below.refl w.heap.size w).alloc (Nat.le_refl _) (.cells #[.int .i64 k, .slice P m q, .int .i64 a, .int .i64 f, .int .i64 z] 56))
  by_cases c : (m : Int) ≤ left
  · rw [if_pos c]
    go_enter Try.func44, Try.ntmps44
    go_wp2_with fail
    refine (szIntS_any _ _ _ left _ hm h0 h1).mono ?_
    rintro e w' ⟨rfl, rfl⟩
    rw [if_pos c]
    go_wp2
    go_ret
    exact ⟨rfl, HB.out⟩
  · rw [if_neg c]
    go_enter Try.func44, Try.ntmps44
    go_wp2_with fail
    refine (szIntS_any _ _ _ left _ hm h0 h1).mono ?_
    rintro e w' ⟨rfl, rfl⟩
    rw [if_neg (by omega)]
    go_wp2
    go_ret
    exact ⟨rfl, HB.out⟩
set_option maxHeartbeats 1600000 in
set_option maxRecDepth 100000 in
theorem toOp_any (k a f z : Int) (p : List Int) (P : Option Addr) (m q : Nat) (w : World) (h : IntIn w w.heap.size P m p) (hm : m ≤ 1048576) :
    Calls Try.prog 45 #[.agg #[.int .i64 k, .slice P m q, .int .i64 a, .int .i64 f, .int .i64 z]] w fun e w' => ∃ g, e = .returned (.agg #[.int .i64 k, .slice (some ⟨g, 0, none⟩) m m, .int .i64 a, .int .i64 f, .int .i64 z]) ∧ w'.ownsRow w.heap.size 3 1 (.slice (some ⟨g, 0, none⟩) m m) m (ints p) ∧ Below w.heap.size w w' ∧ w.heap.size + 3 ≤ g := by
  have H := Lib.hid h
  clear h
  obtain ⟨o1, ho1⟩ : ∃ o, o = Obj.cells #[.int .i64 k, .slice P m q, .int .i64 a, .int .i64 f, .int .i64 z] 56 := ⟨_, rfl⟩
  obtain ⟨o2, ho2⟩ : ∃ o, o = Obj.cells #[.int .i64 0, .slice none 0 0, .int .i64 0, .int .i64 0, .int .i64 0] 33 := ⟨_, rfl⟩
  obtain ⟨o3, ho3⟩ : ∃ o, o = Obj.cells #[.int .i64 k, .slice none 0 0, .int .i64 0, .int .i64 0, .int .i64 0] 33 := ⟨_, rfl⟩
  obtain ⟨s, hs⟩ : ∃ s, s = w.heap.size := ⟨_, rfl⟩
  have hx0 : Bx5 (w.alloc o1) s (.int .i64 k) (.slice P m q) (.int .i64 a) (.int .i64 f) (.int .i64 z) := by rw [ho1, hs]; exact Bx5.made _ _ _ _ _ _ _
  have s1 : (w.alloc o1).heap.size = s + 1 := by rw [hs]; simp
  have s2 : ((w.alloc o1).alloc o2).heap.size = s + 1 + 1 := by rw [hs]; simp
  have s3 : (((w.alloc o1).alloc o2).alloc o3).heap.size = s + 1 + 1 + 1 := by rw [hs]; simp
  have hb1 := (Below.refl w.heap.size w).alloc (Nat.le_refl _) o1
  have hb2 := hb1.alloc hb1.size o2
  have hb3 := hb2.alloc hb2.size o3
  have hz0 : Bx5 ((w.alloc o1).alloc o2) (s + 1) (.int .i64 0) (.slice none 0 0) (.int .i64 0) (.int .i64 0) (.int .i64 0) := by rw [← s1, ho2]; exact Bx5.made _ _ _ _ _ _ _
  have hzf : ∀ off, ((w.alloc o1).alloc o2).frozen? ⟨s + 1, off, none⟩ = false := by rw [← s1, ho2]; exact Bx5.free _ _ _ _ _ _ _
  have hy0 : Bx5 (((w.alloc o1).alloc o2).alloc o3) (s + 1 + 1) (.int .i64 k) (.slice none 0 0) (.int .i64 0) (.int .i64 0) (.int .i64 0) := by rw [← s2, ho3]; exact Bx5.made _ _ _ _ _ _ _
  have hyf : ∀ off, (((w.alloc o1).alloc o2).alloc o3).frozen? ⟨s + 1 + 1, off, none⟩ = false := by rw [← s2, ho3]; exact Bx5.free _ _ _ _ _ _ _
  obtain ⟨wa, hwa⟩ : ∃ wa, wa = ((w.alloc o1).alloc o2).alloc o3 := ⟨_, rfl⟩
  have ha1 : Below (w.alloc o1).heap.size (w.alloc o1) wa := by rw [hwa]; exact ((Below.refl _ _).alloc (Nat.le_refl _) o2).alloc (by simp) o3
  have ha2 : Below ((w.alloc o1).alloc o2).heap.size ((w.alloc o1).alloc o2) wa := by rw [hwa]; exact (Below.refl _ _).alloc (Nat.le_refl _) o3
  have HX := Lib.hid (hx0.below ha1 (by omega))
  have HZ := Lib.hid (hz0.below ha2 (by omega))
  have HZF := Lib.hid (fun off => free_below ha2 (by omega) hzf off)
  rw [← hwa] at hy0 hyf hb3 s3
  have HY := Lib.hid hy0
  have HYF := Lib.hid hyf
  have HB := Lib.hid hb3
  have HS := Lib.hid hs
  have S3 := Lib.hid s3
  have HW := Lib.hid hwa
  have HI := Lib.hid (H.out.to_below HB.out)
  clear hx0 hz0 hzf hy0 hyf hb1 hb2 hb3 s1 s2 s3 ha1 ha2 hwa
  subst ho1
  subst ho2
  subst ho3
  clear hs
  go_enter Try.func45, Try.ntmps45
  go_wp2_with fail
  rw [← HW.out, ← HS.out]
  refine (toIntS_any _ _ _ p _ HI.out hm).mono ?_
  rintro e w1 ⟨rfl, ho, hb⟩
  rw [S3.out] at ho ⊢
  have hsz := hb.size
  rw [S3.out] at hsz
  obtain ⟨x0, x1, x2, x3, x4⟩ := HX.out.keep hb
  obtain ⟨y0, y1, y2, y3, y4⟩ := HY.out.keep hb
  obtain ⟨z0, z1, z2, z3, z4⟩ := HZ.out.keep hb
  have zf := fun off => free_below hb (by rw [S3.out]; omega) HZF.out off
  have yf := fun off => free_below hb (by rw [S3.out]; omega) HYF.out off
  have fz0 := zf 0; have fz1 := zf 1; have fz2 := zf 2; have fz3 := zf 3; have fz4 := zf 4
  have fy1 := yf 1; have fy2 := yf 2; have fy3 := yf 3; have fy4 := yf 4
  have HO := Lib.hid (own_base (base' := w.heap.size) ho (by have := HS.out; omega))
  have HG := Lib.hid (show w.heap.size + 3 ≤ s + 1 + 1 + 1 by have := HS.out; omega)
  have HB1 := Lib.hid (HB.out.trans (hb.mono HB.out.size))
  have HSS := Lib.hid HS.out
  clear zf yf ho hb x0 x1
  go_wp2
  refine bodyPost_ret (v := .agg #[.int .i64 k, .slice (some ⟨s + 1 + 1 + 1, 0, none⟩) m m, .int .i64 a, .int .i64 f, .int .i64 z]) ?_ rfl ?_
  · rw [results_box1 rfl]
    go_simp
  · have hs := HSS.out
    have st (wv : World) (b o : Nat) (u : Value) (hb : b < s + 1 + 1 + 1) (h : wv.ownsRow w.heap.size 3 1 (.slice (some ⟨s + 1 + 1 + 1, 0, none⟩) m m) m (ints p)) : (wv.setCell ⟨b, o, none⟩ u).ownsRow w.heap.size 3 1 (.slice (some ⟨s + 1 + 1 + 1, 0, none⟩) m m) m (ints p) := own_apart h (Kit.grown_set _ _ _ _) (.inr fun e => by simp only [Value.ownBlock] at e; injection e with e; omega)
    have sb (wv : World) (b o : Nat) (u : Value) (hb : s ≤ b) (h : Below w.heap.size w wv) : Below w.heap.size w (wv.setCell ⟨b, o, none⟩ u) := h.setCell (p := ⟨b, o, none⟩) (by simp only; omega) u
    exact ⟨_, rfl, st _ _ _ _ (by omega) (st _ _ _ _ (by omega) (st _ _ _ _ (by omega) (st _ _ _ _ (by omega) (st _ _ _ _ (by omega) (st _ _ _ _ (by omega) (st _ _ _ _ (by omega) (st _ _ _ _ (by omega) (st _ _ _ _ (by omega) HO.out)))))))), sb _ _ _ _ (by omega) (sb _ _ _ _ (by omega) (sb _ _ _ _ (by omega) (sb _ _ _ _ (by omega) (sb _ _ _ _ (by omega) (sb _ _ _ _ (by omega) (sb _ _ _ _ (by omega) (sb _ _ _ _ (by omega) (sb _ _ _ _ (by omega) HB1.out)))))))), HG.out⟩
set_option maxHeartbeats 1600000 in
set_option maxRecDepth 100000 in
theorem eqOp_any (k a f z : Int) (p : List Int) (P P' : Option Addr) (m q m' q' : Nat) (w : World) (h : IntIn w w.heap.size P m p) (h' : IntIn w w.heap.size P' m' p) (hm : m ≤ 1048576) (hm' : m' ≤ 1048576) :
    Calls Try.prog 46 #[.agg #[.int .i64 k, .slice P m q, .int .i64 a, .int .i64 f, .int .i64 z], .agg #[.int .i64 k, .slice P' m' q', .int .i64 a, .int .i64 f, .int .i64 z]] w fun e w' => e = .returned (.bool true) ∧ Below w.heap.size w w' := by
  have H := Lib.hid h
  have H' := Lib.hid h'
  clear h h'
  obtain ⟨o1, ho1⟩ : ∃ o, o = Obj.cells #[.int .i64 k, .slice P m q, .int .i64 a, .int .i64 f, .int .i64 z] 33 := ⟨_, rfl⟩
  obtain ⟨o2, ho2⟩ : ∃ o, o = Obj.cells #[.int .i64 k, .slice P' m' q', .int .i64 a, .int .i64 f, .int .i64 z] 33 := ⟨_, rfl⟩
  obtain ⟨s, hs⟩ : ∃ s, s = w.heap.size := ⟨_, rfl⟩
  have hx0 : Bx5 (w.alloc o1) s (.int .i64 k) (.slice P m q) (.int .i64 a) (.int .i64 f) (.int .i64 z) := by rw [ho1, hs]; exact Bx5.made _ _ _ _ _ _ _
  have s1 : (w.alloc o1).heap.size = s + 1 := by rw [hs]; simp
  have s2 : ((w.alloc o1).alloc o2).heap.size = s + 1 + 1 := by rw [hs]; simp
  have hb1 := (Below.refl w.heap.size w).alloc (Nat.le_refl _) o1
  have hb2 := hb1.alloc hb1.size o2
  have hz0 : Bx5 ((w.alloc o1).alloc o2) (s + 1) (.int .i64 k) (.slice P' m' q') (.int .i64 a) (.int .i64 f) (.int .i64 z) := by rw [← s1, ho2]; exact Bx5.made _ _ _ _ _ _ _
  obtain ⟨wa, hwa⟩ : ∃ wa, wa = (w.alloc o1).alloc o2 := ⟨_, rfl⟩
  have ha1 : Below (w.alloc o1).heap.size (w.alloc o1) wa := by rw [hwa]; exact (Below.refl _ _).alloc (Nat.le_refl _) o2
  have HX := Lib.hid (hx0.below ha1 (by omega))
  rw [← hwa] at hz0 hb2
  have HZ := Lib.hid hz0
  have HB := Lib.hid hb2
  have HS := Lib.hid hs
  have HW := Lib.hid hwa
  have HI := Lib.hid (H.out.to_below HB.out)
  have HI' := Lib.hid (H'.out.to_below HB.out)
  have HE := Lib.hid (eqIntS_any P P' m q m' q' p p wa HI.out HI'.out hm hm')
  have qq : decide (p = p) = true := decide_eq_true rfl
  clear hx0 hz0 hb1 hb2 s1 s2 ha1 hwa
  subst ho1
  subst ho2
  clear hs
  go_enter Try.func46, Try.ntmps46
  go_wp2_with fail
  rw [← HW.out, ← HS.out]
  refine HE.out.mono ?_
  rintro e w1 ⟨rfl, hb⟩
  rw [qq]
  obtain ⟨x0, x1, x2, x3, x4⟩ := HX.out.keep hb
  obtain ⟨y0, y1, y2, y3, y4⟩ := HZ.out.keep hb
  have HB1 := Lib.hid (HB.out.trans (hb.mono HB.out.size))
  clear hb qq
  go_wp2
  go_ret
  exact ⟨rfl, HB1.out⟩
set_option maxHeartbeats 1600000 in
set_option maxRecDepth 100000 in
theorem markOp_any (k a f z : Int) (P : Option Addr) (m q base : Nat) (e0 : TypeId) (k0 : Int) (p : List Int) (w : World) (h : w.ownsRow base e0 1 (.slice P m q) m (ints p)) (hm : m ≤ 1048576) (h0 : 0 ≤ k0) (h1 : k0 ≤ 1073741824) :
    Calls Try.prog 47 #[.agg #[.int .i64 k, .slice P m q, .int .i64 a, .int .i64 f, .int .i64 z], .int .i64 k0] w fun e w' => e = .returned (.int .i64 (k0 + m)) ∧ w'.ownsRow base e0 1 (.slice P m q) m (ints (Zs.marks k0 m)) ∧ w.grownBy w' (Value.ownBlock (.slice P m q)) := by
  have H := Lib.hid (h.alloc (.cells #[.int .i64 k, .slice P m q, .int .i64 a, .int .i64 f, .int .i64 z] 33))
  have HG := Lib.hid (show w.grownBy (w.alloc (.cells #[.int .i64 k, .slice P m q, .int .i64 a, .int .i64 f, .int .i64 z] 33)) (Value.ownBlock (.slice P m q)) from ⟨rfl, rfl, rfl, by simp, fun k hk _ => Below.heap_alloc _ _ _ hk⟩)
  clear h
  go_enter Try.func47, Try.ntmps47
  go_wp2_with fail
  refine (markIntS_any _ _ _ _ _ k0 p _ H.out hm h0 h1).mono ?_
  rintro e w1 ⟨rfl, ho, hg⟩
  have HO := Lib.hid ho
  have HG := Lib.hid (Kit.grown_trans HG.out hg)
  clear ho hg
  go_wp2
  go_ret
  exact ⟨rfl, HO.out, HG.out⟩

end Go.Proofs.Ytofpcedpmbecgaa

/- Lists of which the first part is laid (NdPt). -/
namespace Go.Proofs.Ytofpcedpmbecgaa
open Go.RowKit
set_option linter.unusedVariables false

/-- the first k nodes of xs, then zeros -/
def Tr.part (xs : Tr) (k : Nat) : Tr := xs.take k ++ List.replicate (xs.length - k) (0, 0)
theorem Tr.part_length (xs : Tr) (k : Nat) (hk : k ≤ xs.length) : (Tr.part xs k).length = xs.length := by simp [Tr.part]; omega
theorem Tr.part_set (xs : Tr) (k : Nat) (hk : k < xs.length) : (Tr.part xs k).set k (Tr.l xs k, Tr.d xs k) = Tr.part xs (k + 1) := by
  unfold Tr.part
  rw [List.set_append_right _ _ (by simp; omega)]
  rw [List.take_succ_eq_append_getElem hk, List.append_assoc]
  congr 1
  rw [show xs.length - k = (xs.length - (k + 1)) + 1 by omega, List.replicate_succ]
  simp [Tr.l, Tr.d, List.getD_eq_getElem?_getD, hk, show k - min k xs.length = 0 by omega]
theorem Tr.part_full (xs : Tr) : Tr.part xs xs.length = xs := by simp [Tr.part]
theorem Tr.part_none (xs : Tr) : Tr.part xs 0 = List.replicate xs.length (0, 0) := by simp [Tr.part]

theorem made_nodes (n : Nat) : (madeCells (Value.agg #[.int .i64 0, .int .i64 0]).cells (n * 2)).toList = Tr.cells (List.replicate n (0, 0)) := by
  have h1 (m : Nat) : Tr.cells (List.replicate m (0, 0)) = List.replicate (m * 2) (.int .i64 0) := by
    induction m with
    | zero => rfl
    | succ m ih => rw [List.replicate_succ, show (m + 1) * 2 = m * 2 + 1 + 1 by omega, List.replicate_succ, List.replicate_succ, ← ih]; rfl
  rw [h1]
  apply List.ext_getElem?
  intro j
  by_cases hj : j < n * 2
  · have h2 : j % 2 = 0 ∨ j % 2 = 1 := by omega
    rcases h2 with h2 | h2 <;> simp [madeCells, hj, h2, Value.cells]
  · simp [madeCells, hj]

end Go.Proofs.Ytofpcedpmbecgaa

/- Contracts of the harness over []Node: size, copy. -/
namespace Go.Proofs.Ytofpcedpmbecgaa
open Go.RowKit
set_option linter.unusedVariables false

set_option maxHeartbeats 400000 in
theorem szNodeS_any (A : Option Addr) (n c : Nat) (left : Int) (w : World) (hn : n ≤ 9223372036854775807) (h0 : 0 ≤ left) (h1 : left ≤ 1048576) :
    Calls Try.prog 31 #[.slice A n c, .int .i64 left] w fun e w' => e = .returned (.int .i64 (if (n : Int) ≤ left then left - n else -1)) ∧ w = w' := by
  by_cases h : (n : Int) ≤ left
  · rw [if_pos h]
    go_enter Try.func31, Try.ntmps31
    go_wp2
    go_ret
    exact ⟨rfl, rfl⟩
  · rw [if_neg h]
    go_enter Try.func31, Try.ntmps31
    go_wp2
    go_ret
    exact ⟨rfl, rfl⟩

set_option maxHeartbeats 400000 in
theorem toNode_any (a b : Int) (w : World) :
    Calls Try.prog 74 #[.agg #[.int .i64 a, .int .i64 b]] w fun e w' => e = .returned (.agg #[.int .i64 a, .int .i64 b]) ∧ Below w.heap.size w w' := by
  go_enter Try.func74, Try.ntmps74
  go_wp2
  exact bodyPost_ret (v := .agg #[.int .i64 a, .int .i64 b]) (by simp [results, Try.results74, go_sem]) rfl ⟨rfl, by repeat' (first | exact Below.refl _ _ | refine Below.alloc ?_ (by simp [Nat.le_add_right, Nat.add_assoc]) _ | refine Below.setCell ?_ (by simp [Nat.add_assoc]) _)⟩

theorem info_node : (Try.prog.info? 40).map (fun i => (i.zero, i.size, i.bytes)) = some (some (.agg #[.int .i64 0, .int .i64 0]), 2, 16) := by kernel_rfl

set_option maxHeartbeats 800000 in
set_option maxRecDepth 100000 in
theorem toNodeS_any (A : Option Addr) (n c : Nat) (xs : Tr) (w : World) (h : NdIn w w.heap.size A n xs) (hn : n ≤ 1048576) :
    Calls Try.prog 33 #[.slice A n c] w fun e w' => e = .returned (.slice (some ⟨w.heap.size, 0, none⟩) n n) ∧
      w'.ownsRow w.heap.size 40 2 (.slice (some ⟨w.heap.size, 0, none⟩) n n) n (Tr.cells xs) ∧ Below w.heap.size w w' := by
  have H := Lib.hid h
  clear h
  have HL := Lib.hid H.out.1
  obtain ⟨i0, hi, hz0, hz1, hz2⟩ := info_parts info_node
  go_enter Try.func33, Try.ntmps33
  go_wp2_with (at_make; refine wpList_make_full _ rfl _ _ 24 rfl w.heap.size 40 i0 (.agg #[.int .i64 0, .int .i64 0]) 2 Try.underlying24 hi hz0 hz1 _ _ _ _ n rfl rfl rfl rfl (by rw [hz2]; omega) (by unfold maxLen; omega) (Nat.le_refl _) ?_; intro w1 hown1 hgrow1)
  have hb1 : Below w.heap.size w w1 := (Below.refl _ w).grown hgrow1 (Nat.le_refl _) (fun _ h => by cases h)
  rw [made_nodes, ← HL.out, ← Tr.part_none, HL.out] at hown1
  go_loopw [4] (fun iv wr => ∃ k : Nat, k ≤ n ∧ iv = .int .i64 k ∧ wr.ownsRow w.heap.size 40 2 (.slice (some ⟨w.heap.size, 0, none⟩) n n) n (Tr.cells (Tr.part xs k)) ∧ Below w.heap.size w wr) (fun i _ => n - (intOf i).toNat)
  case atStart => exact ⟨0, by omega, rfl, hown1, hb1⟩
  case round =>
    obtain ⟨k, hk, rfl, hown, hB⟩ := hrel
    have hsz := hB.size
    by_cases hlt : k < n
    · obtain ⟨ad, rfl, hb, hl, hd⟩ := (H.out.below hB).at_ hlt
      have Ho := Lib.hid hown
      have HB := Lib.hid hB
      clear hown hB
      go_wp2_with (go_at_call 74; refine (toNode_any _ _ _).mono ?_; rintro e w' ⟨rfl, hb'⟩; have hb2 := Lib.hid hb'; clear hb'; have Ho2 := Lib.hid (own_below Ho.out hb2.out); have c0 := own_even Ho2.out (k := k) (by rw [Tr.part_length _ _ (by rw [HL.out]; omega), HL.out]; omega); have c1 := own_odd Ho2.out (k := k) (by rw [Tr.part_length _ _ (by rw [HL.out]; omega), HL.out]; omega); have f0 := Ho2.out.frozenAt (k * 2); have f1 := Ho2.out.frozenAt (k * 2 + 1))
      go_roundw
      case rel =>
        refine ⟨k + 1, by omega, by go_num, ?_, ?_⟩
        · have := own_set Ho2.out k (Tr.l xs k) (Tr.d xs k)
          rw [Tr.part_set xs k (by rw [HL.out]; exact hlt)] at this
          exact this
        · exact ((HB.out.trans (hb2.out.mono hsz)).setCell (Nat.le_refl _) _).setCell (Nat.le_refl _) _
      case measure => simp [intOf]; omega
    · obtain rfl : k = n := by omega
      rw [← HL.out, Tr.part_full, HL.out] at hown
      go_wp2
      go_ret
      exact ⟨rfl, hown, hB⟩

end Go.Proofs.Ytofpcedpmbecgaa

/- Two lists of nodes that agree so far. -/
namespace Go.Proofs.Ytofpcedpmbecgaa
open Go.RowKit
set_option linter.unusedVariables false

/-- the first k nodes agree -/
def Tr.same (xs ys : Tr) (k : Nat) : Prop := ∀ j, j < k → Tr.l xs j = Tr.l ys j ∧ Tr.d xs j = Tr.d ys j

end Go.Proofs.Ytofpcedpmbecgaa

/- Contracts of the harness over []Node: equality. -/
namespace Go.Proofs.Ytofpcedpmbecgaa
open Go.RowKit
set_option linter.unusedVariables false

set_option maxHeartbeats 400000 in
theorem eqNode_any (a b c d : Int) (w : World) :
    Calls Try.prog 75 #[.agg #[.int .i64 a, .int .i64 b], .agg #[.int .i64 c, .int .i64 d]] w fun e w' => e = .returned (.bool (decide (a = c ∧ b = d))) ∧ Below w.heap.size w w' := by
  have hB : ∀ o1 o2, Below w.heap.size w ((w.alloc o1).alloc o2) := fun o1 o2 => ((Below.refl _ _).alloc (Nat.le_refl _) _).alloc (by simp) _
  by_cases h1 : a = c
  · by_cases h2 : b = d
    · subst h1 h2
      go_enter Try.func75, Try.ntmps75
      go_wp2
      go_ret
      exact ⟨Kit.ret_bool (by simp), hB _ _⟩
    · have h2' : (b != d) = true := by simpa using h2
      subst h1
      go_enter Try.func75, Try.ntmps75
      go_wp2
      go_ret
      exact ⟨Kit.ret_bool (by simp [h2]), hB _ _⟩
  · have h1' : (a != c) = true := by simpa using h1
    go_enter Try.func75, Try.ntmps75
    go_wp2
    go_ret
    exact ⟨Kit.ret_bool (by simp [h1]), hB _ _⟩


set_option maxHeartbeats 800000 in
set_option maxRecDepth 100000 in
theorem eqNodeS_any (A A' : Option Addr) (n c n' c' : Nat) (xs ys : Tr) (w : World) (h : NdIn w w.heap.size A n xs) (h' : NdIn w w.heap.size A' n' ys) (hn : n ≤ 1048576) (hn' : n' ≤ 1048576) :
    Calls Try.prog 34 #[.slice A n c, .slice A' n' c'] w fun e w' => e = .returned (.bool (decide (xs = ys))) ∧ Below w.heap.size w w' := by
  have H := Lib.hid h
  have H' := Lib.hid h'
  clear h h'
  have HL := Lib.hid H.out.1
  have HL' := Lib.hid H'.out.1
  by_cases hnn : n = n'
  · go_enter Try.func34, Try.ntmps34
    have Hnn := Lib.hid hnn
    have hne : ((n : Int) != (n' : Int)) = false := by simp [hnn]
    clear hnn
    go_wp2
    go_loopw [5] (fun iv wr => ∃ k : Nat, k ≤ n ∧ iv = .int .i64 k ∧ Tr.same xs ys k ∧ Below w.heap.size w wr) (fun i _ => n - (intOf i).toNat)
    case atStart => exact ⟨0, by omega, rfl, fun j hj => absurd hj (by omega), Below.refl _ _⟩
    case round =>
      obtain ⟨k, hk, rfl, hsm, hB⟩ := hrel
      have hsz := hB.size
      have Hsm := Lib.hid hsm
      have HB := Lib.hid hB
      clear hsm hB
      by_cases hlt : k < n
      · obtain ⟨ad, rfl, hb, hl, hd⟩ := (H.out.below HB.out).at_ hlt
        obtain ⟨ad', rfl, hb', hl', hd'⟩ := (H'.out.below HB.out).at_ (k := k) (by rw [← Hnn.out]; exact hlt)
        have hlt' : (k : Int) < (n' : Int) := by rw [← Hnn.out]; omega
        have hk0 : (0 : Int) ≤ (k : Int) := by omega
        have HB2 := Lib.hid HB.out.drew
        have hsz2 := HB.out.drew.size
        by_cases hq : Tr.l xs k = Tr.l ys k ∧ Tr.d xs k = Tr.d ys k
        · have hq' : decide (Tr.l xs k = Tr.l ys k ∧ Tr.d xs k = Tr.d ys k) = true := by simpa using hq
          have Hq := Lib.hid hq
          clear hq
          go_wp2
          go_still_tail 8, (by kernel_rfl)
          change wpList _ _ _ _ _ wr.drew
          generalize wr.drew = w2 at HB2 hsz2 ⊢
          go_wp2_with (go_at_call 75; refine (eqNode_any _ _ _ _ _).mono ?_; rintro e w3 ⟨rfl, hb3⟩)
          go_roundw
          case rel => exact ⟨k + 1, by omega, by go_num, fun j hj => by
            rcases Nat.lt_succ_iff_lt_or_eq.1 hj with h' | rfl
            · exact Hsm.out j h'
            · exact Hq.out, HB2.out.trans (hb3.mono hsz2)⟩
          case measure => simp [intOf]; omega
        · have hq' : decide (Tr.l xs k = Tr.l ys k ∧ Tr.d xs k = Tr.d ys k) = false := by simpa using hq
          have Hq := Lib.hid hq
          clear hq
          go_wp2
          go_still_tail 8, (by kernel_rfl)
          change wpList _ _ _ _ _ wr.drew
          generalize wr.drew = w2 at HB2 hsz2 ⊢
          go_wp2_with (go_at_call 75; refine (eqNode_any _ _ _ _ _).mono ?_; rintro e w3 ⟨rfl, hb3⟩)
          go_ret
          refine ⟨Kit.ret_bool ?_, HB2.out.trans (hb3.mono hsz2)⟩
          symm
          rw [decide_eq_false_iff_not]
          rintro rfl
          exact Hq.out ⟨rfl, rfl⟩
      · obtain rfl : k = n := by omega
        go_wp2
        go_ret
        refine ⟨Kit.ret_bool ?_, HB.out⟩
        symm
        rw [decide_eq_true_eq]
        exact Tr.ext (by rw [HL.out, HL'.out]; exact Hnn.out) (fun j hj => Hsm.out j (by rw [← HL.out]; exact hj))
  · have hne : ((n : Int) != (n' : Int)) = true := by simp; omega
    have Hq := Lib.hid (show decide (xs = ys) = false by
      rw [decide_eq_false_iff_not]; rintro rfl; exact hnn (HL.out.symm.trans HL'.out))
    clear hnn
    go_enter Try.func34, Try.ntmps34
    go_wp2
    go_ret
    exact ⟨Kit.ret_bool Hq.out.symm, Below.refl _ _⟩

end Go.Proofs.Ytofpcedpmbecgaa
