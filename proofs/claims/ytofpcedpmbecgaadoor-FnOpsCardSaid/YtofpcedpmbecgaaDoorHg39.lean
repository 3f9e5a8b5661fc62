/- Texts of one claim laid into one file, in build order: DrAO, Oal. -/
import Derived.Test.YtofpcedpmbecgaaDoorHg18
import Derived.Test.YtofpcedpmbecgaaDoorHg28
import Derived.Test.YtofpcedpmbecgaaDoorHg38
/- Contracts (DrAO). -/
namespace Go.Proofs.YtofpcedpmbecgaaDoor
open Go.RowKit
set_option linter.unusedVariables false

theorem results_tmp_cell {fn : Func} {p u : Tmp} {ty : TypeId} (h : fn.results = #[.tmp u, .cell p ty]) (tmps : Array Value) (P : Program) (w : World) :
    (results fn tmps).run P w = ((asAddr (tmps.getD p undef)).run P w).andThen fun a w₁ => ((loadVar ty a).run P w₁).andThen fun y w₂ => .ok (.tuple #[tmps.getD u undef, y]) w₂ := by
  simp only [results, h]
  simp [Sem.run_bind, Result.andThen]
theorem codeIn_on13 {w w' : World} {B : Nat} {a : Option Addr} {cs : List Int} (h : CodeIn w B a cs) (hb : Below B w w') (hB : B ≤ w'.heap.size) : CodeIn w' w'.heap.size a cs := by
  intro j hj
  obtain ⟨b, off, h1, h2, h3, h4⟩ := h j hj
  exact ⟨b, off, h1, by omega, (hb.cell (p := ⟨b, off + j, none⟩) h2).trans h3, h4⟩
/-- nodes and an operation, drawn -/
def DrawAO (w : World) (e : Ending) (w' : World) : Prop :=
  ∃ (xs : Tr) (A : Option Addr) (n cp : Nat) (kd a f z : Int) (p : List Int) (P : Option Addr) (m q : Nat), e = .returned (.tuple #[.slice A n cp, .agg #[.int .i64 kd, .slice P m q, .int .i64 a, .int .i64 f, .int .i64 z]]) ∧
    NdIn w' w'.heap.size A n xs ∧ n ≤ cp ∧ n ≤ 31 ∧ IntIn w' w'.heap.size P m p ∧ m ≤ 32 ∧ Below w.heap.size w w'
set_option maxHeartbeats 1600000 in
set_option maxRecDepth 100000 in
theorem drawApplyOp_ex (w : World) (k : Code) (hcode : CodeIn w w.heap.size k.a k.cs) (hlen : k.cs.length ≤ 1048576) :
    Calls Tryd.prog 6 #[.slice k.a k.cs.length k.cap] w (DrawAO w) := by
  have HC := Lib.hid hcode
  clear hcode
  obtain ⟨wr, hwr⟩ : ∃ x, x = w.alloc (.cells #[.int .i64 0, .slice none 0 0, .int .i64 0, .int .i64 0, .int .i64 0] 27) := ⟨_, rfl⟩
  obtain ⟨r, hr⟩ : ∃ r, r = w.heap.size := ⟨_, rfl⟩
  have HU := Lib.hid (show Bx5 wr r (.int .i64 0) (.slice none 0 0) (.int .i64 0) (.int .i64 0) (.int .i64 0) by rw [hwr, hr]; exact Bx5.made _ _ _ _ _ _ _)
  have HUF := Lib.hid (show ∀ off, wr.frozen? ⟨r, off, none⟩ = false by rw [hwr, hr]; exact Bx5.free _ _ _ _ _ _ _)
  have hb : Below w.heap.size w wr := by rw [hwr]; exact (Below.refl _ _).alloc (Nat.le_refl _) _
  have HCr := Lib.hid (codeIn_on13 HC.out hb hb.size)
  have HZ := Lib.hid (show wr.heap.size = r + 1 ∧ r = w.heap.size from ⟨by rw [hwr, hr]; simp, hr⟩)
  have HB := Lib.hid hb
  have HW := Lib.hid hwr
  have HR := Lib.hid hr
  clear hwr hr hb
  go_enter Tryd.func6, Tryd.ntmps6
  go_wp2_with fail
  rw [← HW.out, ← HR.out]
  refine (l1New_ex wr k HCr.out hlen).mono ?_
  rintro e w1 ⟨rfl, c, g1⟩
  have HU := Lib.hid (HU.out.kept g1 (fun e => by cases e))
  have HUF := Lib.hid (free_kept13 g1 (by have := HZ.out; omega) (fun b e => by cases e) HUF.out)
  have HX := Lib.hid c
  have HB := Lib.hid (HB.out.grown g1 (by have := HZ.out; omega) (fun b e => by cases e))
  have hs1 := g1.size
  clear c g1
  go_wp2_with fail
  refine (l3Any_ex w1 _ k 10 (by decide) HX.out).mono ?_
  rintro e w2 ⟨xs, A, n, cp, rfl, hN, hcp, hn31, c, g2⟩
  have hBl := HX.out.lt
  have HU := Lib.hid (HU.out.kept g2 (fun e => by injection e with e; have := HZ.out; omega))
  have HUF := Lib.hid (free_kept13 g2 (by have := HZ.out; omega) (fun b e => by injection e with e; have := HZ.out; omega) HUF.out)
  have HX := Lib.hid c
  have HB := Lib.hid (HB.out.grown g2 (by have := HZ.out; omega) (fun b e => by injection e with e; have := HZ.out; omega))
  have HN := Lib.hid (show NdLo w2 (wr.heap.size + 1) w2.heap.size A n xs from ⟨hN.1, fun ad e => by have := hN.2 ad e; have := HZ.out; omega⟩)
  have hs2 := g2.size
  clear c g2 hN
  go_wp2_with fail
  refine (l13Op_ex w2 _ k A n cp xs HX.out HN.out hn31).mono ?_
  rintro e w3 ⟨kd, a, f, z, p, P, m, q, rfl, hm, ho, c, g3⟩
  have HU := Lib.hid (HU.out.kept g3 (fun e => by injection e with e; have := HZ.out; omega))
  have HUF := Lib.hid (free_kept13 g3 (by have := HZ.out; omega) (fun b e => by injection e with e; have := HZ.out; omega) HUF.out)
  have HB := Lib.hid (HB.out.grown g3 (by have := HZ.out; omega) (fun b e => by injection e with e; have := HZ.out; omega))
  have hs3 := g3.size
  have HN := Lib.hid (HN.out.grown g3 (Nat.le_refl _) (fun b e => by injection e with e; have := HZ.out; omega))
  have HO := Lib.hid ho
  clear c g3 ho
  obtain ⟨u0, u1, u2, u3, u4⟩ := HU.out
  have f0 := HUF.out 0
  have f1 := HUF.out 1
  have f2 := HUF.out 2
  have f3 := HUF.out 3
  have f4 := HUF.out 4
  go_wp2
  refine bodyPost_ret (v := .tuple #[.slice A n cp, .agg #[.int .i64 kd, .slice P m q, .int .i64 a, .int .i64 f, .int .i64 z]]) ?_ rfl ?_
  · rw [results_tmp_cell rfl]
    go_simp
  · have hz := HZ.out
    have st (wv : World) (i : Nat) (v : Value) (h : wv.ownsRow w2.heap.size 3 1 (.slice P m q) m (ints p) ∧ NdLo wv (wr.heap.size + 1) w2.heap.size A n xs ∧ Below w.heap.size w wv ∧ w3.heap.size = wv.heap.size) : (wv.setCell ⟨r, i, none⟩ v).ownsRow w2.heap.size 3 1 (.slice P m q) m (ints p) ∧ NdLo (wv.setCell ⟨r, i, none⟩ v) (wr.heap.size + 1) w2.heap.size A n xs ∧ Below w.heap.size w (wv.setCell ⟨r, i, none⟩ v) ∧ w3.heap.size = (wv.setCell ⟨r, i, none⟩ v).heap.size :=
      ⟨own_apart h.1 (Kit.grown_set wv r i v) (.inr fun e => by have := (HO.out.lt r e).1; omega), h.2.1.grown (Kit.grown_set wv r i v) (by omega) (fun b e => by injection e with e; omega), h.2.2.1.setCell (p := ⟨r, i, none⟩) (by simp only; omega) v, by simpa using h.2.2.2⟩
    obtain ⟨s1, s2, s3, s4⟩ := st _ 4 (.int .i64 z) (st _ 3 (.int .i64 f) (st _ 2 (.int .i64 a) (st _ 1 (.slice P m q) (st _ 0 (.int .i64 kd) ⟨HO.out, HN.out, HB.out, rfl⟩))))
    exact ⟨xs, A, n, cp, kd, a, f, z, p, P, m, q, rfl, s2.here (by omega), hcp, hn31, IntIn.of_own s1, hm, s3⟩

end Go.Proofs.YtofpcedpmbecgaaDoor

/- Contracts (Oal). -/
namespace Go.Proofs.YtofpcedpmbecgaaDoor
open Go.RowKit
set_option linter.unusedVariables false

theorem Oc.apply_len (xs : Tr) (o : Opr) : (Oc.apply xs o).1.length ≤ 24 := by
  rcases h : Tr.ok xs with _ | _
  · rw [Oc.apply_no h]; exact Nat.zero_le _
  · by_cases c : Oc.code xs o (Tr.nodeAt xs o.p) = 0
    · rw [Oc.apply_done h c]
      exact (Tr.len24 (Oc.new_ok h c).1).2
    · rw [Oc.apply_fail h c]
      exact (Tr.len24 h).2

end Go.Proofs.YtofpcedpmbecgaaDoor
