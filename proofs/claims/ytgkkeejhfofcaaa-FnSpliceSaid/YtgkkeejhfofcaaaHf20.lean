/- Texts of one claim laid into one file, in build order: DrAO, DrAP, StepO, Opa, SplM, Oal, Ocd. -/
import Derived.Test.YtgkkeejhfofcaaaHf1
import Derived.Test.YtgkkeejhfofcaaaHf17
import Derived.Test.YtgkkeejhfofcaaaHf18
import Derived.Test.YtgkkeejhfofcaaaHf19
import Derived.Test.YtgkkeejhfofcaaaHf2
import Derived.Test.YtgkkeejhfofcaaaHf3
import Derived.Test.YtgkkeejhfofcaaaHf4
import Derived.Test.YtgkkeejhfofcaaaHf6
import Derived.Test.YtgkkeejhfofcaaaHf8
import Derived.Maps.AppendAt
/- Contracts (DrAO). -/
namespace Go.Proofs.Ytgkkeejhfofcaaa
open Go.RowKit
set_option linter.unusedVariables false

theorem results_tmp_cell {fn : Func} {p u : Tmp} {ty : TypeId} (h : fn.results = #[.tmp u, .cell p ty]) (tmps : Array Value) (P : Program) (w : World) :
    (results fn tmps).run P w = ((asAddr (tmps.getD p undef)).run P w).andThen fun a w₁ => ((loadVar ty a).run P w₁).andThen fun y w₂ => .ok (.tuple #[tmps.getD u undef, y]) w₂ := by
  simp only [results, h]
  simp [Sem.run_bind, Result.andThen]
theorem codeIn_on13 {w w' : World} {B : Nat} {a : Option Addr} {cs : List Int} (h : CodeIn w B a cs) (hb : Below B w w') (hB : B ≤ w'.heap.size) : CodeIn w' w'.heap.size a cs := by
  intro j hj
  obtain ⟨b, off, h1, h2, h3, h4⟩ := h j hj
  exact ⟨b, off, h1, by omega, (hb.cell (p := ⟨b, off + j, none⟩) h2).trans h3, h4⟩
end Go.Proofs.Ytgkkeejhfofcaaa

/- Contracts (DrAP). -/
namespace Go.Proofs.Ytgkkeejhfofcaaa
open Go.RowKit
set_option linter.unusedVariables false

/-- nodes and an operation, drawn -/
def DrawAP (w : World) (e : Ending) (w' : World) : Prop :=
  ∃ (xs : Tr) (A : Option Addr) (n cp : Nat) (kd a f z : Int) (p : List Int) (P : Option Addr) (m q : Nat), e = .returned (.tuple #[.slice A n cp, .agg #[.int .i64 kd, .slice P m q, .int .i64 a, .int .i64 f, .int .i64 z]]) ∧
    NdIn w' w'.heap.size A n xs ∧ n ≤ cp ∧ n ≤ 31 ∧ w'.ownsRow w.heap.size 3 1 (.slice P m q) m (ints p) ∧ m ≤ 32 ∧ Below w.heap.size w w'
set_option maxHeartbeats 1600000 in
set_option maxRecDepth 100000 in
theorem drawApplyOpP_ex (w : World) (k : Code) (hcode : CodeIn w w.heap.size k.a k.cs) (hlen : k.cs.length ≤ 1048576) :
    Calls Try.prog 19 #[.slice k.a k.cs.length k.cap] w (DrawAP w) := by
  have HC := Lib.hid hcode
  clear hcode
  obtain ⟨wr, hwr⟩ : ∃ x, x = w.alloc (.cells #[.int .i64 0, .slice none 0 0, .int .i64 0, .int .i64 0, .int .i64 0] 39) := ⟨_, rfl⟩
  obtain ⟨r, hr⟩ : ∃ r, r = w.heap.size := ⟨_, rfl⟩
  have HU := Lib.hid (show Bx5 wr r (.int .i64 0) (.slice none 0 0) (.int .i64 0) (.int .i64 0) (.int .i64 0) by rw [hwr, hr]; exact Bx5.made _ _ _ _ _ _ _)
  have HUF := Lib.hid (show ∀ off, wr.frozen? ⟨r, off, none⟩ = false by rw [hwr, hr]; exact Bx5.free _ _ _ _ _ _ _)
  have hb : Below w.heap.size w wr := by rw [hwr]; exact (Below.refl _ _).alloc (Nat.le_refl _) _
  have HCr := Lib.hid (codeIn_on13 HC.out hb hb.size)
  have HZ := Lib.hid (show wr.heap.size = r + 1 ∧ r = w.heap.size from ⟨by rw [hwr, hr]; simp, hr⟩)
  have HB := Lib.hid hb
  have HW := Lib.hid hwr
  have HR := Lib.hid hr
  clear hwr hr hb
  go_enter Try.func19, Try.ntmps19
  go_wp2_with fail
  rw [← HW.out, ← HR.out]
  refine (l1New_ex wr k HCr.out hlen).mono ?_
  rintro e w1 ⟨rfl, c, g1⟩
  have HU := Lib.hid (HU.out.kept g1 (fun e => by cases e))
  have HUF := Lib.hid (free_kept13 g1 (by have := HZ.out; omega) (fun b e => by cases e) HUF.out)
  have HX := Lib.hid c
  have HB := Lib.hid (HB.out.grown g1 (by have := HZ.out; omega) (fun b e => by cases e))
  have hs1 := g1.size
  clear c g1
  go_wp2_with fail
  refine (l3Any_ex w1 _ k 10 (by decide) HX.out).mono ?_
  rintro e w2 ⟨xs, A, n, cp, rfl, hN, hcp, hn31, c, g2⟩
  have hBl := HX.out.lt
  have HU := Lib.hid (HU.out.kept g2 (fun e => by injection e with e; have := HZ.out; omega))
  have HUF := Lib.hid (free_kept13 g2 (by have := HZ.out; omega) (fun b e => by injection e with e; have := HZ.out; omega) HUF.out)
  have HX := Lib.hid c
  have HB := Lib.hid (HB.out.grown g2 (by have := HZ.out; omega) (fun b e => by injection e with e; have := HZ.out; omega))
  have HN := Lib.hid (show NdLo w2 (wr.heap.size + 1) w2.heap.size A n xs from ⟨hN.1, fun ad e => by have := hN.2 ad e; have := HZ.out; omega⟩)
  have hs2 := g2.size
  clear c g2 hN
  go_wp2_with fail
  refine (l13Op_ex w2 _ k A n cp xs HX.out HN.out hn31).mono ?_
  rintro e w3 ⟨kd, a, f, z, p, P, m, q, rfl, hm, ho, c, g3⟩
  have HU := Lib.hid (HU.out.kept g3 (fun e => by injection e with e; have := HZ.out; omega))
  have HUF := Lib.hid (free_kept13 g3 (by have := HZ.out; omega) (fun b e => by injection e with e; have := HZ.out; omega) HUF.out)
  have HB := Lib.hid (HB.out.grown g3 (by have := HZ.out; omega) (fun b e => by injection e with e; have := HZ.out; omega))
  have hs3 := g3.size
  have HN := Lib.hid (HN.out.grown g3 (Nat.le_refl _) (fun b e => by injection e with e; have := HZ.out; omega))
  have HO := Lib.hid ho
  clear c g3 ho
  obtain ⟨u0, u1, u2, u3, u4⟩ := HU.out
  have f0 := HUF.out 0
  have f1 := HUF.out 1
  have f2 := HUF.out 2
  have f3 := HUF.out 3
  have f4 := HUF.out 4
  go_wp2
  refine bodyPost_ret (v := .tuple #[.slice A n cp, .agg #[.int .i64 kd, .slice P m q, .int .i64 a, .int .i64 f, .int .i64 z]]) ?_ rfl ?_
  · rw [results_tmp_cell rfl]
    go_simp
  · have hz := HZ.out
    have st (wv : World) (i : Nat) (v : Value) (h : wv.ownsRow w2.heap.size 3 1 (.slice P m q) m (ints p) ∧ NdLo wv (wr.heap.size + 1) w2.heap.size A n xs ∧ Below w.heap.size w wv ∧ w3.heap.size = wv.heap.size) : (wv.setCell ⟨r, i, none⟩ v).ownsRow w2.heap.size 3 1 (.slice P m q) m (ints p) ∧ NdLo (wv.setCell ⟨r, i, none⟩ v) (wr.heap.size + 1) w2.heap.size A n xs ∧ Below w.heap.size w (wv.setCell ⟨r, i, none⟩ v) ∧ w3.heap.size = (wv.setCell ⟨r, i, none⟩ v).heap.size :=
      ⟨own_apart h.1 (Kit.grown_set wv r i v) (.inr fun e => by have := (HO.out.lt r e).1; omega), h.2.1.grown (Kit.grown_set wv r i v) (by omega) (fun b e => by injection e with e; omega), h.2.2.1.setCell (p := ⟨r, i, none⟩) (by simp only; omega) v, by simpa using h.2.2.2⟩
    obtain ⟨s1, s2, s3, s4⟩ := st _ 4 (.int .i64 z) (st _ 3 (.int .i64 f) (st _ 2 (.int .i64 a) (st _ 1 (.slice P m q) (st _ 0 (.int .i64 kd) ⟨HO.out, HN.out, HB.out, rfl⟩))))
    exact ⟨xs, A, n, cp, kd, a, f, z, p, P, m, q, rfl, s2.here (by omega), hcp, hn31, own_base (base' := w.heap.size) s1 (by have := HZ.out; omega), hm, s3⟩


end Go.Proofs.Ytgkkeejhfofcaaa

/- Contracts (StepO). -/
namespace Go.Proofs.Ytgkkeejhfofcaaa
open Go.RowKit
set_option linter.unusedVariables false

/-- append of a row of the call's own to another one, in a region that draws its order -/
theorem step_append_own {P : Program} {ops : Array Oper} {o : Oper} {a : Act} (w : World) {K : Act → World → Prop} {Q : Exit → Act → World → Prop} {E : Prop} (hgd : o.guard = none) (s x : Operand) (t : TypeId)
    (ho : o.op = .call { callee := .builtin .append, args := #[s, x], argTypes := #[t, t] })
    (base : Nat) (e : TypeId) (i : TypeInfo) (ht : P.underlying t = some (.slice e)) (hi : P.info? e = some i) (hz : i.zero = some (.int .i64 0))
    (hsize : i.size = 1) (hby : i.bytes = 8) (v : Value) (n : Nat) (l : List Int) (hs : a.eval s = v) (hown : w.ownsRow base e 1 v n (ints l))
    (vx : Value) (m b2 : Nat) (zs : List Int) (hx : a.eval x = vx) (hxo : w.ownsRow b2 e 1 vx m (ints zs)) (h63 : n + m ≤ 1073741824) (hbase : base ≤ w.heap.size)
    (h : ∀ v' w', w'.ownsRow base e 1 v' (n + m) (ints (l ++ zs)) → w.grownBy w' v.ownBlock → K (a.put o.dst v') w') :
    if Region.wanted o (yielded ops a.tmps) = true then Oper.wp P o a w K Q else E := by
  have hw : Region.wanted o (yielded ops a.tmps) = true := by simp [Region.wanted, hgd]
  rw [if_pos hw]
  have hl := hxo.1
  rcases hxo.2 with ⟨rfl, h0⟩ | ⟨g, cap, cur, rfl, hrest⟩
  · subst h0
    have hzn : zs = [] := by
      rw [ints_length] at hl
      exact List.eq_nil_of_length_eq_zero (by omega)
    subst hzn
    have hr := run_append_owned_none (P := P) (w := w) base t o.type e i 1 ht hi v n (ints l) hown
    unfold Oper.wp
    simp [execOp, ho, resolve, invoke, builtin, hs, hx, hr, Result.andThen]
    exact h v w (by simpa using hown) (Kit.grown_refl w _)
  · have hc : ∀ j u, (ints zs)[j]? = some u → w.cell? ((⟨g, 0, none⟩ : Addr).add j) = some u := fun j u hj => by
      have hlt := (List.getElem?_eq_some_iff.1 hj).1
      have := (show w.ownsRow b2 e 1 (.slice (some ⟨g, 0, none⟩) m cap) m (ints zs) from ⟨hl, .inr ⟨g, cap, cur, rfl, hrest⟩⟩).cellAt j (by rw [← hl]; exact hlt)
      rw [show (⟨g, 0, none⟩ : Addr).add j = ⟨g, j, none⟩ by simp only [Addr.add]; split <;> simp_all, this, hj]
    obtain ⟨v', w', hr, h2, h3, h4, h5⟩ := run_append_own_at (P := P) (w := w) base t o.type e i (.int .i64 0) 1 8 ht hi hz hsize hby rfl (by decide) v n (ints l) hown ⟨g, 0, none⟩ m cap (ints zs) hl hc
      (fun u hu => by obtain ⟨z, _, rfl⟩ := List.mem_map.1 hu; rfl) (by unfold maxLen; omega) (by omega) hbase
    unfold Oper.wp
    simp [execOp, ho, resolve, invoke, builtin, hs, hx, hr, Result.andThen]
    exact h _ _ (by rw [ints_append]; exact h2) h3

end Go.Proofs.Ytgkkeejhfofcaaa

/- Contracts (Opa). -/
namespace Go.Proofs.Ytgkkeejhfofcaaa
open Go.RowKit
set_option linter.unusedVariables false


/-! Operations and lists of them, as mathematics. -/
/-- an operation: its kind, path, label, from, count -/
structure Opr where
  k : Int
  p : List Int
  a : Int
  f : Int
  c : Int
/-- the greatest depth that m nodes from place f on, put below i's kid, would have -/
def Oc.deep (xs : Tr) (i f : Nat) : Nat → Int
  | 0 => Tr.d xs i + 1
  | m + 1 => max (Oc.deep xs i f m) (Tr.d xs (f + m) + 1)
theorem Oc.deep_le {xs : Tr} {i f : Nat} {z : Int} : ∀ m, Oc.deep xs i f m ≤ z ↔ Tr.d xs i + 1 ≤ z ∧ ∀ k, f ≤ k → k < f + m → Tr.d xs k + 1 ≤ z
  | 0 => ⟨fun h => ⟨h, fun k h1 h2 => by omega⟩, fun h => h.1⟩
  | m + 1 => by
    have ih := Oc.deep_le (xs := xs) (i := i) (f := f) (z := z) m
    constructor
    · intro h
      have h' : max (Oc.deep xs i f m) (Tr.d xs (f + m) + 1) ≤ z := h
      obtain ⟨a, b⟩ := ih.1 (by omega)
      refine ⟨a, fun k h1 h2 => ?_⟩
      rcases Nat.lt_or_ge k (f + m) with c | c
      · exact b k h1 c
      · obtain rfl : k = f + m := by omega
        omega
    · rintro ⟨a, b⟩
      have h1 := ih.2 ⟨a, fun k h1 h2 => b k h1 (by omega)⟩
      have h2 := b (f + m) (by omega) (by omega)
      show max (Oc.deep xs i f m) (Tr.d xs (f + m) + 1) ≤ z
      omega
/-- what is wrong with an operation for node i (-1: there is none), 0: nothing -/
def Oc.code (xs : Tr) (o : Opr) (i : Int) : Int :=
  if ¬ (1 ≤ o.k ∧ o.k ≤ 3) then 1
  else if i < 0 then 2
  else if o.k ≠ 2 ∧ Lab.ok o.a = false then 3
  else if o.k = 2 ∧ i = 0 then 4
  else if o.k ≠ 3 then 0
  else if ¬ (0 ≤ o.f ∧ o.f ≤ (Tr.kidsTo xs i.toNat (Tr.endN xs i.toNat)).length ∧ 0 ≤ o.c ∧ o.c ≤ (Tr.kidsTo xs i.toNat (Tr.endN xs i.toNat)).length - o.f) then 5
  else if xs.length = 24 then 6
  else if 12 < Oc.deep xs i.toNat (Tr.cut xs i.toNat o.f.toNat) (Tr.cut xs i.toNat (o.f.toNat + o.c.toNat) - Tr.cut xs i.toNat o.f.toNat) then 7
  else 0
/-- the new list of an operation with which nothing is wrong -/
def Oc.new (xs : Tr) (o : Opr) (i : Nat) : Tr :=
  if o.k = 1 then Oc.rel xs i o.a else if o.k = 2 then Oc.del xs i else Oc.ins xs i o.a (Tr.cut xs i o.f.toNat) (Tr.cut xs i (o.f.toNat + o.c.toNat))
def Oc.apply (xs : Tr) (o : Opr) : Tr × Int :=
  if Tr.ok xs then
    if Oc.code xs o (Tr.nodeAt xs o.p) = 0 then (Oc.new xs o (Tr.nodeAt xs o.p).toNat, 0) else (xs, Oc.code xs o (Tr.nodeAt xs o.p))
  else ([], 2)
section
variable {xs : Tr} {o : Opr}
theorem Oc.apply_no (h : Tr.ok xs = false) : Oc.apply xs o = ([], 2) := by unfold Oc.apply; rw [h]; rfl
theorem Oc.apply_code (h : Tr.ok xs = true) : (Oc.apply xs o).2 = Oc.code xs o (Tr.nodeAt xs o.p) := by
  unfold Oc.apply
  rw [if_pos h]
  split
  · rename_i e; rw [e]
  · rfl
theorem Oc.apply_fail (h : Tr.ok xs = true) (hc : Oc.code xs o (Tr.nodeAt xs o.p) ≠ 0) : Oc.apply xs o = (xs, Oc.code xs o (Tr.nodeAt xs o.p)) := by
  unfold Oc.apply; rw [if_pos h, if_neg hc]
theorem Oc.apply_done (h : Tr.ok xs = true) (hc : Oc.code xs o (Tr.nodeAt xs o.p) = 0) : Oc.apply xs o = (Oc.new xs o (Tr.nodeAt xs o.p).toNat, 0) := by
  unfold Oc.apply; rw [if_pos h, if_pos hc]
/-- nothing is wrong: which node, and what that says of each kind -/
theorem Oc.right (h : Tr.ok xs = true) (hc : Oc.code xs o (Tr.nodeAt xs o.p) = 0) : ∃ i : Nat, i < xs.length ∧ Tr.nodeAt xs o.p = i ∧
    ((o.k = 1 ∧ 0 ≤ o.a ∧ o.a ≤ 5) ∨ (o.k = 2 ∧ 0 < i) ∨
     (o.k = 3 ∧ (0 ≤ o.a ∧ o.a ≤ 5) ∧ 0 ≤ o.f ∧ 0 ≤ o.c ∧ o.f.toNat + o.c.toNat ≤ (Tr.kidsTo xs i (Tr.endN xs i)).length ∧ xs.length ≠ 24 ∧ Tr.d xs i + 1 ≤ 12 ∧ ∀ k, Tr.cut xs i o.f.toNat ≤ k → k < Tr.cut xs i (o.f.toNat + o.c.toNat) → Tr.d xs k + 1 ≤ 12)) := by
  have n := Tr.len24 h
  have r : Tr.nodeAt xs o.p = -1 ∨ ∃ i : Nat, Tr.nodeAt xs o.p = i ∧ i < xs.length := by
    unfold Tr.nodeAt
    rw [if_pos h]
    rcases Tr.walk_range h o.p 0 (by omega) with e | ⟨r, e, _, hr⟩
    · exact .inl e
    · exact .inr ⟨r, e, hr⟩
  unfold Oc.code at hc
  by_cases c1 : ¬ (1 ≤ o.k ∧ o.k ≤ 3)
  · rw [if_pos c1] at hc; omega
  rw [if_neg c1] at hc
  by_cases c2 : Tr.nodeAt xs o.p < 0
  · rw [if_pos c2] at hc; omega
  rw [if_neg c2] at hc
  obtain ⟨i, hi, hin⟩ := r.resolve_left (by omega)
  rw [hi] at hc c2
  rw [show ((i : Int)).toNat = i by omega] at hc
  refine ⟨i, hin, hi, ?_⟩
  by_cases c3 : o.k ≠ 2 ∧ Lab.ok o.a = false
  · rw [if_pos c3] at hc; omega
  rw [if_neg c3] at hc
  by_cases c4 : o.k = 2 ∧ (i : Int) = 0
  · rw [if_pos c4] at hc; omega
  rw [if_neg c4] at hc
  have lab : o.k ≠ 2 → 0 ≤ o.a ∧ o.a ≤ 5 := fun e => by
    cases hl : Lab.ok o.a with
    | false => exact absurd ⟨e, hl⟩ c3
    | true => simpa [Lab.ok] using hl
  by_cases c5 : o.k ≠ 3
  · by_cases c6 : o.k = 2
    · exact .inr (.inl ⟨c6, by omega⟩)
    · exact .inl ⟨by omega, lab c6⟩
  rw [if_neg c5] at hc
  by_cases c7 : ¬ (0 ≤ o.f ∧ o.f ≤ (Tr.kidsTo xs i (Tr.endN xs i)).length ∧ 0 ≤ o.c ∧ o.c ≤ (Tr.kidsTo xs i (Tr.endN xs i)).length - o.f)
  · rw [if_pos c7] at hc; omega
  rw [if_neg c7] at hc
  by_cases c8 : xs.length = 24
  · rw [if_pos c8] at hc; omega
  rw [if_neg c8] at hc
  have hq : o.f.toNat + o.c.toNat ≤ (Tr.kidsTo xs i (Tr.endN xs i)).length := by omega
  have mono := Tr.cut_mono h hin (q := o.f.toNat) (r := o.f.toNat + o.c.toNat) (by omega) hq
  by_cases c9 : 12 < Oc.deep xs i (Tr.cut xs i o.f.toNat) (Tr.cut xs i (o.f.toNat + o.c.toNat) - Tr.cut xs i o.f.toNat)
  · rw [if_pos c9] at hc; omega
  obtain ⟨d1, d2⟩ := (Oc.deep_le _).1 (show Oc.deep xs i (Tr.cut xs i o.f.toNat) (Tr.cut xs i (o.f.toNat + o.c.toNat) - Tr.cut xs i o.f.toNat) ≤ 12 by omega)
  exact .inr (.inr ⟨by omega, lab (by omega), by omega, by omega, hq, c8, d1, fun k h1 h2 => d2 k h1 (by omega)⟩)
/-- a successful operation: a valid tree, a node more or less or as many, at most one away -/
theorem Oc.new_ok (h : Tr.ok xs = true) (hc : Oc.code xs o (Tr.nodeAt xs o.p) = 0) :
    Tr.ok (Oc.new xs o (Tr.nodeAt xs o.p).toNat) = true ∧ ((Oc.new xs o (Tr.nodeAt xs o.p).toNat).length : Int) = xs.length + (if o.k = 3 then 1 else if o.k = 2 then -1 else 0) ∧ Tr.rootDist xs (Oc.new xs o (Tr.nodeAt xs o.p).toNat) Co.unit ≤ 1 := by
  obtain ⟨i, hi, hp, hk⟩ := Oc.right h hc
  rw [hp, show ((i : Int)).toNat = i by omega]
  unfold Oc.new
  rcases hk with ⟨e, ha⟩ | ⟨e, h0⟩ | ⟨e, ha, hf, hcc, hq, hn, hd, hdd⟩
  · rw [if_pos e, if_neg (by omega), if_neg (by omega)]
    exact ⟨Oc.rel_ok h hi ha, by rw [Oc.rel_len]; omega, Oc.rel_near h hi ha⟩
  · rw [if_neg (by omega), if_pos e, if_neg (by omega), if_pos e]
    exact ⟨Oc.del_ok h hi h0, by rw [Oc.del_len hi]; omega, (Oc.del_near h hi h0).1⟩
  · rw [if_neg (by omega), if_neg (by omega), if_pos e]
    obtain ⟨bf, _, _⟩ := Tr.cut_bound h hi o.f.toNat (by omega)
    obtain ⟨bt, _, _⟩ := Tr.cut_bound h hi _ hq
    have mono := Tr.cut_mono h hi (q := o.f.toNat) (r := o.f.toNat + o.c.toNat) (by omega) hq
    have ok := Oc.ins_ok h hi ha bf bt mono hn hd hdd
    have e2 := (Tr.endN_spec xs i hi).2.1
    have t2 := bt.2.1
    exact ⟨ok, by rw [Oc.ins_len mono (by omega)]; omega, Oc.ins_near h hi bf bt mono ok⟩
end
/-! several, one behind the other -/
def Oc.all : Tr → List Opr → Tr × Nat × Int
  | xs, [] => (xs, 0, 0)
  | xs, o :: os => if (Oc.apply xs o).2 = 0 then ((Oc.all (Oc.apply xs o).1 os).1, (Oc.all (Oc.apply xs o).1 os).2.1 + 1, (Oc.all (Oc.apply xs o).1 os).2.2) else (xs, 0, (Oc.apply xs o).2)
end Go.Proofs.Ytgkkeejhfofcaaa

/- Contracts (SplM). -/
namespace Go.Proofs.Ytgkkeejhfofcaaa
open Go.RowKit
set_option linter.unusedVariables false


/-! A node put in, and taken out again. -/
theorem Tr.kidsI_len14 {xs : Tr} (h : Tr.ok xs = true) {i : Nat} (hi : i < xs.length) : (Tr.kidsI xs (i : Int)).length = (Tr.kidsTo xs i (Tr.endN xs i)).length := by
  unfold Tr.kidsI Tr.kidsOf
  rw [if_pos (Tr.has_nat h hi)]
  simp
theorem Oc.spliced {xs : Tr} {p : List Int} {a f z : Int} (hc : (Oc.apply xs ⟨3, p, a, f, z⟩).2 = 0) : Tr.ok xs = true ∧ Tr.ok (Oc.apply xs ⟨3, p, a, f, z⟩).1 = true ∧ ∃ i g : Nat, Tr.nodeAt xs p = i ∧ Tr.nodeAt (Oc.apply xs ⟨3, p, a, f, z⟩).1 (p ++ [f]) = g ∧ g < (Oc.apply xs ⟨3, p, a, f, z⟩).1.length ∧
    Tr.l (Oc.apply xs ⟨3, p, a, f, z⟩).1 g = a ∧ ((Tr.kidsI (Oc.apply xs ⟨3, p, a, f, z⟩).1 (g : Int)).length : Int) = z ∧ ((Tr.kidsI (Oc.apply xs ⟨3, p, a, f, z⟩).1 (i : Int)).length : Int) = ((Tr.kidsI xs (i : Int)).length : Int) - z + 1 ∧
    Oc.apply (Oc.apply xs ⟨3, p, a, f, z⟩).1 ⟨2, p ++ [f], 0, 0, 0⟩ = (xs, 0) := by
  have h : Tr.ok xs = true := by
    rcases e : Tr.ok xs with _ | _
    · rw [Oc.apply_no e] at hc; exact absurd hc (by decide)
    · rfl
  have hc2 : Oc.code xs ⟨3, p, a, f, z⟩ (Tr.nodeAt xs p) = 0 := by rw [← Oc.apply_code h]; exact hc
  obtain ⟨i, hi, hn, hk⟩ := Oc.right h hc2
  have hnew := Oc.new_ok h hc2
  rcases hk with ⟨hk, _⟩ | ⟨hk, _⟩ | ⟨_, ha, hf, hz, hq, h24, hd, hdd⟩
  · exact absurd (show (3 : Int) = 1 from hk) (by decide)
  · exact absurd (show (3 : Int) = 2 from hk) (by decide)
  dsimp only at ha hf hz hq h24 hd hdd hn hnew
  obtain ⟨q, rfl⟩ := Int.eq_ofNat_of_zero_le hf
  obtain ⟨c, rfl⟩ := Int.eq_ofNat_of_zero_le hz
  rw [show ((q : Nat) : Int).toNat = q from rfl, show ((c : Nat) : Int).toNat = c from rfl] at hq hdd
  have hx : (Oc.apply xs ⟨3, p, a, (q : Int), (c : Int)⟩).1 = Oc.ins xs i a (Tr.cut xs i q) (Tr.cut xs i (q + c)) := by
    rw [Oc.apply_done h hc2]
    dsimp only
    rw [hn]
    unfold Oc.new
    rw [if_neg (show ¬ (3 : Int) = 1 by decide), if_neg (show ¬ (3 : Int) = 2 by decide)]
    rfl
  have hoy : Tr.ok (Oc.ins xs i a (Tr.cut xs i q) (Tr.cut xs i (q + c))) = true := by
    obtain ⟨bf, _⟩ := Tr.cut_bound h hi q (by omega)
    obtain ⟨bt, _⟩ := Tr.cut_bound h hi (q + c) hq
    exact Oc.ins_ok h hi ha bf bt (Tr.cut_mono h hi (by omega) hq) h24 hd hdd
  obtain ⟨s1, s2, s3, s4, s5, s6, s7⟩ := Oc.splice h hi hq hoy hn
  obtain ⟨bf, _⟩ := Tr.cut_bound h hi q (by omega)
  obtain ⟨bt, _⟩ := Tr.cut_bound h hi (q + c) hq
  have hft := Tr.cut_mono h hi (q := q) (r := q + c) (by omega) hq
  have hdel := Oc.del_ins (a := a) h hi bf bt hft
  have hiy : i < (Oc.ins xs i a (Tr.cut xs i q) (Tr.cut xs i (q + c))).length := by
    have := bf.1
    omega
  rw [hx]
  refine ⟨h, hoy, i, Tr.cut xs i q, hn, s2, s3, s5, ?_, ?_, ?_⟩
  · rw [Tr.kidsI_len14 hoy s3, s6]
  · rw [Tr.kidsI_len14 hoy hiy, Tr.kidsI_len14 h hi]; omega
  · have hcode : Oc.code (Oc.ins xs i a (Tr.cut xs i q) (Tr.cut xs i (q + c))) ⟨2, p ++ [(q : Int)], 0, 0, 0⟩ (Tr.nodeAt (Oc.ins xs i a (Tr.cut xs i q) (Tr.cut xs i (q + c))) (p ++ [(q : Int)])) = 0 := by
      rw [s2]
      unfold Oc.code
      dsimp only
      rw [if_neg (by omega), if_neg (by omega), if_neg (by omega), if_neg (by omega), if_pos (show (2 : Int) ≠ 3 by decide)]
    rw [Oc.apply_done hoy hcode]
    dsimp only
    rw [s2]
    unfold Oc.new
    rw [if_neg (show ¬ (2 : Int) = 1 by decide), if_pos rfl]
    show (Oc.del _ (Tr.cut xs i q), (0 : Int)) = _
    rw [hdel]

end Go.Proofs.Ytgkkeejhfofcaaa

/- Contracts (Oal). -/
namespace Go.Proofs.Ytgkkeejhfofcaaa
open Go.RowKit
set_option linter.unusedVariables false

theorem Oc.apply_len (xs : Tr) (o : Opr) : (Oc.apply xs o).1.length ≤ 24 := by
  rcases h : Tr.ok xs with _ | _
  · rw [Oc.apply_no h]; exact Nat.zero_le _
  · by_cases c : Oc.code xs o (Tr.nodeAt xs o.p) = 0
    · rw [Oc.apply_done h c]
      exact (Tr.len24 (Oc.new_ok h c).1).2
    · rw [Oc.apply_fail h c]
      exact (Tr.len24 h).2

end Go.Proofs.Ytgkkeejhfofcaaa

/- Contracts (Ocd). -/
namespace Go.Proofs.Ytgkkeejhfofcaaa
open Go.RowKit
set_option linter.unusedVariables false

/-- what is wrong with an insertion below i of a node with a valid label -/
def Oc.icode (xs : Tr) (i : Nat) (f z : Int) : Int :=
  if ¬ (0 ≤ f ∧ f ≤ (Tr.kidsTo xs i (Tr.endN xs i)).length ∧ 0 ≤ z ∧ z ≤ (Tr.kidsTo xs i (Tr.endN xs i)).length - f) then 5
  else if xs.length = 24 then 6
  else if 12 < Oc.deep xs i (Tr.cut xs i f.toNat) (Tr.cut xs i (f.toNat + z.toNat) - Tr.cut xs i f.toNat) then 7
  else 0
section
variable {xs : Tr} {i : Nat} {f z : Int} {o : Opr}
theorem Oc.icode5 (h : ¬ (0 ≤ f ∧ f ≤ (Tr.kidsTo xs i (Tr.endN xs i)).length ∧ 0 ≤ z ∧ z ≤ (Tr.kidsTo xs i (Tr.endN xs i)).length - f)) : Oc.icode xs i f z = 5 := by unfold Oc.icode; rw [if_pos h]
theorem Oc.icode6 (h : 0 ≤ f ∧ f ≤ (Tr.kidsTo xs i (Tr.endN xs i)).length ∧ 0 ≤ z ∧ z ≤ (Tr.kidsTo xs i (Tr.endN xs i)).length - f) (hn : xs.length = 24) : Oc.icode xs i f z = 6 := by unfold Oc.icode; rw [if_neg (by simpa using h), if_pos hn]
theorem Oc.icode_deep (h : 0 ≤ f ∧ f ≤ (Tr.kidsTo xs i (Tr.endN xs i)).length ∧ 0 ≤ z ∧ z ≤ (Tr.kidsTo xs i (Tr.endN xs i)).length - f) (hn : xs.length ≠ 24) : Oc.icode xs i f z = if 12 < Oc.deep xs i (Tr.cut xs i f.toNat) (Tr.cut xs i (f.toNat + z.toNat) - Tr.cut xs i f.toNat) then 7 else 0 := by unfold Oc.icode; rw [if_neg (by simpa using h), if_neg hn]
theorem Oc.code1 {x : Int} (h : ¬ (1 ≤ o.k ∧ o.k ≤ 3)) : Oc.code xs o x = 1 := by unfold Oc.code; rw [if_pos h]
theorem Oc.code2 {x : Int} (h : 1 ≤ o.k ∧ o.k ≤ 3) (hx : x < 0) : Oc.code xs o x = 2 := by unfold Oc.code; rw [if_neg (by simpa using h), if_pos hx]
theorem Oc.code3 {x : Int} (h : 1 ≤ o.k ∧ o.k ≤ 3) (hx : ¬ x < 0) (h2 : o.k ≠ 2) (hl : Lab.ok o.a = false) : Oc.code xs o x = 3 := by unfold Oc.code; rw [if_neg (by simpa using h), if_neg hx, if_pos ⟨h2, hl⟩]
theorem Oc.code_del {x : Int} (h2 : o.k = 2) (hx : ¬ x < 0) : Oc.code xs o x = if x = 0 then 4 else 0 := by
  unfold Oc.code
  rw [if_neg (by omega), if_neg hx, if_neg (by simp [h2])]
  by_cases e : x = 0
  · rw [if_pos ⟨h2, e⟩, if_pos e]
  · rw [if_neg (fun c => e c.2), if_pos (by omega), if_neg e]
theorem Oc.code_rel {x : Int} (h1 : o.k = 1) (hx : ¬ x < 0) (hl : Lab.ok o.a = true) : Oc.code xs o x = 0 := by
  unfold Oc.code
  rw [if_neg (by omega), if_neg hx, if_neg (by simp [hl]), if_neg (by omega), if_pos (by omega)]
theorem Oc.code_ins (h3 : o.k = 3) (hl : Lab.ok o.a = true) : Oc.code xs o (i : Int) = Oc.icode xs i o.f o.c := by
  unfold Oc.code Oc.icode
  rw [if_neg (by omega), if_neg (by omega), if_neg (by simp [hl]), if_neg (by omega), if_neg (by omega)]
  simp only [Int.toNat_natCast]
/-- a node put in keeps the tree valid just where no depth goes too far -/
theorem Oc.ins_deep {F T : Nat} {a : Int} (hok : Tr.ok xs = true) (hi : i < xs.length) (ha : Lab.ok a = true) (hF : Tr.bound xs i F) (hT : Tr.bound xs i T) (hFT : F ≤ T) (hn : xs.length ≠ 24) : Tr.ok (Oc.ins xs i a F T) = decide (¬ 12 < Oc.deep xs i F (T - F)) := by
  have hla : 0 ≤ a ∧ a ≤ 5 := by simpa [Lab.ok] using ha
  have t2 := hT.2.1
  have e2 := (Tr.endN_spec xs i hi).2.1
  have tn : T ≤ xs.length := by omega
  by_cases c : 12 < Oc.deep xs i F (T - F)
  · rw [decide_eq_false (by simpa using c), Bool.eq_false_iff]
    intro ho
    have hl := Oc.ins_len (xs := xs) (i := i) (a := a) hFT tn
    have hd : Oc.deep xs i F (T - F) ≤ 12 → False := fun h => by omega
    refine hd ((Oc.deep_le (z := 12) _).2 ⟨?_, fun k h1 h2 => ?_⟩)
    · have := (Tr.ok_at ho (k := F) (by omega)).2.1.2
      rw [Oc.ins_d hFT tn (by omega), if_neg (Nat.lt_irrefl _), if_pos rfl] at this
      exact this
    · have := (Tr.ok_at ho (k := k + 1) (by omega)).2.1.2
      rw [Oc.ins_d hFT tn (by omega), if_neg (by omega), if_neg (by omega), if_pos (by omega), show k + 1 - 1 = k by omega] at this
      exact this
  · rw [decide_eq_true (by simpa using c)]
    obtain ⟨d1, d2⟩ := (Oc.deep_le (z := 12) _).1 (show Oc.deep xs i F (T - F) ≤ 12 by omega)
    exact Oc.ins_ok hok hi hla hF hT hFT hn d1 (fun k h1 h2 => d2 k h1 (by omega))
end

end Go.Proofs.Ytgkkeejhfofcaaa
