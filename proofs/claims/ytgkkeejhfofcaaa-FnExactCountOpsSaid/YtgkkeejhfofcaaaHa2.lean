/- Texts of one claim laid into one file, in build order: SzC, IntE, Res, BoxC, Grow, OpH. -/
import Derived.Test.YtgkkeejhfofcaaaHa1
import Derived.Below
import Derived.Outline
import Derived.Test.YtgkkeejhfofcaaaRows
/- Contracts (SzC). -/
namespace Go.Proofs.Ytgkkeejhfofcaaa
open Go.RowKit
set_option linter.unusedVariables false

set_option maxHeartbeats 400000 in
theorem szIntS_any (A : Option Addr) (n c : Nat) (left : Int) (w : World) (hn : n ≤ 9223372036854775807) (h0 : 0 ≤ left) (h1 : left ≤ 1048576) :
    Calls Try.prog 141 #[.slice A n c, .int .i64 left] w fun e w' => e = .returned (.int .i64 (if (n : Int) ≤ left then left - n else -1)) ∧ w = w' := by
  by_cases h : (n : Int) ≤ left
  · rw [if_pos h]
    go_enter Try.func141, Try.ntmps141
    go_wp2
    go_ret
    exact ⟨rfl, rfl⟩
  · rw [if_neg h]
    go_enter Try.func141, Try.ntmps141
    go_wp2
    go_ret
    exact ⟨rfl, rfl⟩
end Go.Proofs.Ytgkkeejhfofcaaa

/- Contracts (IntE). -/
namespace Go.Proofs.Ytgkkeejhfofcaaa
open Go.RowKit
set_option linter.unusedVariables false

set_option maxHeartbeats 800000 in
set_option maxRecDepth 100000 in
theorem eqIntS_any (A A' : Option Addr) (n c n' c' : Nat) (xs ys : List Int) (w : World) (h : IntIn w w.heap.size A n xs) (h' : IntIn w w.heap.size A' n' ys) (hn : n ≤ 1048576) (hn' : n' ≤ 1048576) :
    Calls Try.prog 140 #[.slice A n c, .slice A' n' c'] w fun e w' => e = .returned (.bool (decide (xs = ys))) ∧ Below w.heap.size w w' := by
  have H := Lib.hid h
  have H' := Lib.hid h'
  clear h h'
  have HL := Lib.hid H.out.1
  have HL' := Lib.hid H'.out.1
  by_cases hnn : n = n'
  · go_enter Try.func140, Try.ntmps140
    have Hnn := Lib.hid hnn
    have hne : ((n : Int) != (n' : Int)) = false := by simp [hnn]
    clear hnn
    go_wp2
    go_loopw [5] (fun iv wr => ∃ k : Nat, k ≤ n ∧ iv = .int .i64 k ∧ (∀ j, j < k → Zs.at xs j = Zs.at ys j) ∧ Drawn w wr) (fun i _ => n - (intOf i).toNat)
    case atStart => exact ⟨0, by omega, rfl, fun j hj => absurd hj (by omega), Drawn.refl _⟩
    case round =>
      obtain ⟨k, hk, rfl, hsm, hD⟩ := hrel
      have Hsm := Lib.hid hsm
      clear hsm
      by_cases hlt : k < n
      · obtain ⟨ad, rfl, hb, hl⟩ := (H.out.drawn hD).at_ hlt
        obtain ⟨ad', rfl, hb', hl'⟩ := (H'.out.drawn hD).at_ (k := k) (by rw [← Hnn.out]; exact hlt)
        have hlt' : (k : Int) < (n' : Int) := by rw [← Hnn.out]; omega
        have hk0 : (0 : Int) ≤ (k : Int) := by omega
        by_cases hq1 : Zs.at xs k = Zs.at ys k
        · have Hq := Lib.hid hq1
          have q1 : (Zs.at xs k != Zs.at ys k) = false := by simpa using hq1
          clear hq1
          go_wp2
          go_quiet (fail)
          go_wp2
          go_roundw
          case rel => exact ⟨k + 1, by omega, by go_num, fun j hj => by
            rcases Nat.lt_succ_iff_lt_or_eq.1 hj with h' | rfl
            · exact Hsm.out j h'
            · exact Hq.out, hD.drewN _⟩
          case measure => simp [intOf]; omega
        · have Hq := Lib.hid hq1
          have q1 : (Zs.at xs k != Zs.at ys k) = true := by simpa using hq1
          clear hq1
          go_wp2
          go_quiet (fail)
          go_wp2
          go_ret
          refine ⟨Kit.ret_bool ?_, (hD.drewN _).toBelow⟩
          symm
          rw [decide_eq_false_iff_not]
          rintro rfl
          exact Hq.out rfl
      · obtain rfl : k = n := by omega
        go_wp2
        go_ret
        refine ⟨Kit.ret_bool ?_, hD.toBelow⟩
        symm
        rw [decide_eq_true_eq]
        exact Zs.ext (by rw [HL.out, HL'.out]; exact Hnn.out) (fun j hj => Hsm.out j (by rw [← HL.out]; exact hj))
  · have hne : ((n : Int) != (n' : Int)) = true := by simp; omega
    have Hq := Lib.hid (show decide (xs = ys) = false by
      rw [decide_eq_false_iff_not]; rintro rfl; exact hnn (HL.out.symm.trans HL'.out))
    clear hnn
    go_enter Try.func140, Try.ntmps140
    go_wp2
    go_ret
    exact ⟨Kit.ret_bool Hq.out.symm, Below.refl _ _⟩


end Go.Proofs.Ytgkkeejhfofcaaa

/- Contracts (Res). -/
namespace Go.Proofs.Ytgkkeejhfofcaaa
open Go.RowKit
set_option linter.unusedVariables false


theorem own_drawn {w w' : World} {base n size : Nat} {e : TypeId} {v : Value} {ys : List Value} (h : w.ownsRow base e size v n ys) (k : Drawn w w') : w'.ownsRow base e size v n ys := own_below h k.toBelow
theorem own_nil {w : World} {base size : Nat} {e : TypeId} : w.ownsRow base e size (.slice none 0 0) 0 [] := World.ownsRow_nil w base e size
theorem own_base {w : World} {base base' n size : Nat} {e : TypeId} {v : Value} {ys : List Value} (h : w.ownsRow base e size v n ys) (hb : base' ≤ base) : w.ownsRow base' e size v n ys := by
  refine ⟨h.1, ?_⟩
  rcases h.2 with h | ⟨g, cap, cur, hv, hg, h⟩
  · exact .inl h
  · exact .inr ⟨g, cap, cur, hv, Nat.le_trans hb hg, h⟩
def Tr.kidsZ (xs : Tr) (i k : Nat) : List Int := (Tr.kidsTo xs i k).map fun (m : Nat) => (m : Int)
def Tr.kidsI (xs : Tr) (i : Int) : List Int := (Tr.kidsOf xs i).map fun (m : Nat) => (m : Int)
theorem Tr.kidsI_yes {xs : Tr} {j : Nat} (h : Tr.has xs j = true) : Tr.kidsI xs j = Tr.kidsZ xs j (Tr.endN xs j) := by simp [Tr.kidsI, Tr.kidsOf, h, Tr.kidsZ]
theorem Tr.endOf_yes {xs : Tr} {j : Nat} (h : Tr.has xs j = true) : Tr.endOf xs j = (Tr.endN xs j : Nat) := by simp [Tr.endOf, h]
theorem Tr.subTree_yes {xs : Tr} {j : Nat} (h : Tr.has xs j = true) : Tr.subTree xs j = Tr.subTo xs j (Tr.endN xs j) := by simp [Tr.subTree, h]
end Go.Proofs.Ytgkkeejhfofcaaa

/- Contracts (BoxC). -/
namespace Go.Proofs.Ytgkkeejhfofcaaa
open Go.RowKit
set_option linter.unusedVariables false

/-- a block of three cells -/
def Box3 (w : World) (g : Nat) (v0 v1 v2 : Value) : Prop := w.cell? ⟨g, 0, none⟩ = some v0 ∧ w.cell? ⟨g, 1, none⟩ = some v1 ∧ w.cell? ⟨g, 2, none⟩ = some v2
theorem Box3.drawn {w w' : World} {g : Nat} {v0 v1 v2 : Value} (h : Box3 w g v0 v1 v2) (hd : Drawn w w') : Box3 w' g v0 v1 v2 := ⟨(hd.cell _).trans h.1, (hd.cell _).trans h.2.1, (hd.cell _).trans h.2.2⟩
theorem Box3.below {w w' : World} {g B : Nat} {v0 v1 v2 : Value} (h : Box3 w g v0 v1 v2) (hb : Below B w w') (hg : g < B) : Box3 w' g v0 v1 v2 := ⟨(hb.cell (p := ⟨g, 0, none⟩) hg).trans h.1, (hb.cell (p := ⟨g, 1, none⟩) hg).trans h.2.1, (hb.cell (p := ⟨g, 2, none⟩) hg).trans h.2.2⟩
theorem Box3.made (w : World) (v0 v1 v2 : Value) (e : TypeId) : Box3 (w.alloc (.cells #[v0, v1, v2] e)) w.heap.size v0 v1 v2 := ⟨by simp, by simp, by simp⟩
theorem Box3.free (w : World) (v0 v1 v2 : Value) (e : TypeId) (off : Nat) : (w.alloc (.cells #[v0, v1, v2] e)).frozen? ⟨w.heap.size, off, none⟩ = false := by simp
theorem free_below {w w' : World} {g B : Nat} (hb : Below B w w') (hg : g < B) (h : ∀ off, w.frozen? ⟨g, off, none⟩ = false) (off : Nat) : w'.frozen? ⟨g, off, none⟩ = false := by
  have e := hb.block g hg
  have := h off
  unfold World.frozen? at this ⊢
  simp only [e]
  exact this
theorem Box3.alloc {w : World} {g : Nat} {v0 v1 v2 : Value} (h : Box3 w g v0 v1 v2) (hg : g < w.heap.size) (o : Obj) : Box3 (w.alloc o) g v0 v1 v2 :=
  ⟨(World.cell?_alloc_lt w o ⟨g, 0, none⟩ hg).trans h.1, (World.cell?_alloc_lt w o ⟨g, 1, none⟩ hg).trans h.2.1, (World.cell?_alloc_lt w o ⟨g, 2, none⟩ hg).trans h.2.2⟩

end Go.Proofs.Ytgkkeejhfofcaaa

/- Worlds that grow. -/
namespace Go.Proofs.Ytgkkeejhfofcaaa
open Go.RowKit
set_option linter.unusedVariables false

theorem Kit.grown_set (w : World) (B o : Nat) (u : Value) : w.grownBy (w.setCell ⟨B, o, none⟩ u) (some B) :=
  ⟨rfl, rfl, rfl, by simp [World.setCell], fun k hk hne => Below.heap_setCell _ _ _ _ (by intro h; subst h; exact hne rfl)⟩
end Go.Proofs.Ytgkkeejhfofcaaa

/- Contracts (OpH). -/
namespace Go.Proofs.Ytgkkeejhfofcaaa
open Go.RowKit
set_option linter.unusedVariables false

/-- a variable of five cells -/
def Bx5 (w : World) (b : Nat) (v0 v1 v2 v3 v4 : Value) : Prop := w.cell? ⟨b, 0, none⟩ = some v0 ∧ w.cell? ⟨b, 1, none⟩ = some v1 ∧ w.cell? ⟨b, 2, none⟩ = some v2 ∧ w.cell? ⟨b, 3, none⟩ = some v3 ∧ w.cell? ⟨b, 4, none⟩ = some v4
section
variable {w w' : World} {b B : Nat} {v0 v1 v2 v3 v4 : Value}
theorem Bx5.made (w : World) (v0 v1 v2 v3 v4 : Value) (T : TypeId) : Bx5 (w.alloc (.cells #[v0, v1, v2, v3, v4] T)) w.heap.size v0 v1 v2 v3 v4 := ⟨by simp, by simp, by simp, by simp, by simp⟩
theorem Bx5.free (w : World) (v0 v1 v2 v3 v4 : Value) (T : TypeId) (off : Nat) : (w.alloc (.cells #[v0, v1, v2, v3, v4] T)).frozen? ⟨w.heap.size, off, none⟩ = false := by simp
theorem Bx5.below (h : Bx5 w b v0 v1 v2 v3 v4) (hb : Below B w w') (hl : b < B) : Bx5 w' b v0 v1 v2 v3 v4 :=
  ⟨(hb.cell (p := ⟨b, 0, none⟩) hl).trans h.1, (hb.cell (p := ⟨b, 1, none⟩) hl).trans h.2.1, (hb.cell (p := ⟨b, 2, none⟩) hl).trans h.2.2.1, (hb.cell (p := ⟨b, 3, none⟩) hl).trans h.2.2.2.1, (hb.cell (p := ⟨b, 4, none⟩) hl).trans h.2.2.2.2⟩
theorem Bx5.lt (h : Bx5 w b v0 v1 v2 v3 v4) : b < w.heap.size := World.block_lt_of_cell? _ _ h.1
theorem Bx5.keep (h : Bx5 w b v0 v1 v2 v3 v4) (hb : Below w.heap.size w w') : Bx5 w' b v0 v1 v2 v3 v4 := h.below hb h.lt
theorem Bx5.other (h : Bx5 w b v0 v1 v2 v3 v4) {p : Addr} (hp : p.block ≠ b) (u : Value) : Bx5 (w.setCell p u) b v0 v1 v2 v3 v4 :=
  ⟨by rw [World.cell?_setCell_other _ _ _ _ (fun e => hp (congrArg Addr.block e))]; exact h.1, by rw [World.cell?_setCell_other _ _ _ _ (fun e => hp (congrArg Addr.block e))]; exact h.2.1, by rw [World.cell?_setCell_other _ _ _ _ (fun e => hp (congrArg Addr.block e))]; exact h.2.2.1, by rw [World.cell?_setCell_other _ _ _ _ (fun e => hp (congrArg Addr.block e))]; exact h.2.2.2.1, by rw [World.cell?_setCell_other _ _ _ _ (fun e => hp (congrArg Addr.block e))]; exact h.2.2.2.2⟩
end
theorem results_box1 {fn : Func} {p : Tmp} {ty : TypeId} (h : fn.results = #[.cell p ty]) (tmps : Array Value) (P : Program) (w : World) :
    (results fn tmps).run P w = ((asAddr (tmps.getD p undef)).run P w).andThen fun a w₁ => (loadVar ty a).run P w₁ := by
  simp only [results, h]
  simp [Sem.run_bind]
/-- a row stands where another block is written -/
theorem own_apart {w w' : World} {base n size : Nat} {e : TypeId} {u : Value} {xs : List Value} {row : Option Nat} (h : w.ownsRow base e size u n xs) (hg : w.grownBy w' row) (hne : u.ownBlock = none ∨ u.ownBlock ≠ row) : w'.ownsRow base e size u n xs := by
  refine ⟨h.1, ?_⟩
  rcases h.2 with h1 | ⟨g, cap, cur, hv, hb, hg', hr⟩
  · exact .inl h1
  · subst hv
    refine .inr ⟨g, cap, cur, rfl, hb, (hg.block g (Array.getElem?_eq_some_iff.1 hg').1 ?_).trans hg', hr⟩
    rcases hne with h | h
    · cases h
    · exact h
set_option maxHeartbeats 800000 in
set_option maxRecDepth 100000 in
theorem szOp_any (k a f z : Int) (P : Option Addr) (m q : Nat) (left : Int) (w : World) (hm : m ≤ 9223372036854775807) (h0 : 0 ≤ left) (h1 : left ≤ 1048576) :
    Calls Try.prog 100 #[.agg #[.int .i64 k, .slice P m q, .int .i64 a, .int .i64 f, .int .i64 z], .int .i64 left] w fun e w' => e = .returned (.int .i64 (if (m : Int) ≤ left then left - m else -1)) ∧ Below w.heap.size w w' := by
  have HB := Lib.hid ((Below.refl w.heap.size w).alloc (Nat.le_refl _) (.cells #[.int .i64 k, .slice P m q, .int .i64 a, .int .i64 f, .int .i64 z] 131))
  by_cases c : (m : Int) ≤ left
  · rw [if_pos c]
    go_enter Try.func100, Try.ntmps100
    go_wp2_with fail
    refine (szIntS_any _ _ _ left _ hm h0 h1).mono ?_
    rintro e w' ⟨rfl, rfl⟩
    rw [if_pos c]
    go_wp2
    go_ret
    exact ⟨rfl, HB.out⟩
  · rw [if_neg c]
    go_enter Try.func100, Try.ntmps100
    go_wp2_with fail
    refine (szIntS_any _ _ _ left _ hm h0 h1).mono ?_
    rintro e w' ⟨rfl, rfl⟩
    rw [if_neg (by omega)]
    go_wp2
    go_ret
    exact ⟨rfl, HB.out⟩
set_option maxHeartbeats 1600000 in
set_option maxRecDepth 100000 in
theorem toOp_any (k a f z : Int) (p : List Int) (P : Option Addr) (m q : Nat) (w : World) (h : IntIn w w.heap.size P m p) (hm : m ≤ 1048576) :
    Calls Try.prog 101 #[.agg #[.int .i64 k, .slice P m q, .int .i64 a, .int .i64 f, .int .i64 z]] w fun e w' => ∃ g, e = .returned (.agg #[.int .i64 k, .slice (some ⟨g, 0, none⟩) m m, .int .i64 a, .int .i64 f, .int .i64 z]) ∧ w'.ownsRow w.heap.size 3 1 (.slice (some ⟨g, 0, none⟩) m m) m (ints p) ∧ Below w.heap.size w w' ∧ w.heap.size + 3 ≤ g := by
  have H := Lib.hid h
  clear h
  obtain ⟨o1, ho1⟩ : ∃ o, o = Obj.cells #[.int .i64 k, .slice P m q, .int .i64 a, .int .i64 f, .int .i64 z] 131 := ⟨_, rfl⟩
  obtain ⟨o2, ho2⟩ : ∃ o, o = Obj.cells #[.int .i64 0, .slice none 0 0, .int .i64 0, .int .i64 0, .int .i64 0] 39 := ⟨_, rfl⟩
  obtain ⟨o3, ho3⟩ : ∃ o, o = Obj.cells #[.int .i64 k, .slice none 0 0, .int .i64 0, .int .i64 0, .int .i64 0] 39 := ⟨_, rfl⟩
  obtain ⟨s, hs⟩ : ∃ s, s = w.heap.size := ⟨_, rfl⟩
  have hx0 : Bx5 (w.alloc o1) s (.int .i64 k) (.slice P m q) (.int .i64 a) (.int .i64 f) (.int .i64 z) := by rw [ho1, hs]; exact Bx5.made _ _ _ _ _ _ _
  have s1 : (w.alloc o1).heap.size = s + 1 := by rw [hs]; simp
  have s2 : ((w.alloc o1).alloc o2).heap.size = s + 1 + 1 := by rw [hs]; simp
  have s3 : (((w.alloc o1).alloc o2).alloc o3).heap.size = s + 1 + 1 + 1 := by rw [hs]; simp
  have hb1 := (Below.refl w.heap.size w).alloc (Nat.le_refl _) o1
  have hb2 := hb1.alloc hb1.size o2
  have hb3 := hb2.alloc hb2.size o3
  have hz0 : Bx5 ((w.alloc o1).alloc o2) (s + 1) (.int .i64 0) (.slice none 0 0) (.int .i64 0) (.int .i64 0) (.int .i64 0) := by rw [← s1, ho2]; exact Bx5.made _ _ _ _ _ _ _
  have hzf : ∀ off, ((w.alloc o1).alloc o2).frozen? ⟨s + 1, off, none⟩ = false := by rw [← s1, ho2]; exact Bx5.free _ _ _ _ _ _ _
  have hy0 : Bx5 (((w.alloc o1).alloc o2).alloc o3) (s + 1 + 1) (.int .i64 k) (.slice none 0 0) (.int .i64 0) (.int .i64 0) (.int .i64 0) := by rw [← s2, ho3]; exact Bx5.made _ _ _ _ _ _ _
  have hyf : ∀ off, (((w.alloc o1).alloc o2).alloc o3).frozen? ⟨s + 1 + 1, off, none⟩ = false := by rw [← s2, ho3]; exact Bx5.free _ _ _ _ _ _ _
  obtain ⟨wa, hwa⟩ : ∃ wa, wa = ((w.alloc o1).alloc o2).alloc o3 := ⟨_, rfl⟩
  have ha1 : Below (w.alloc o1).heap.size (w.alloc o1) wa := by rw [hwa]; exact ((Below.refl _ _).alloc (Nat.le_refl _) o2).alloc (by simp) o3
  have ha2 : Below ((w.alloc o1).alloc o2).heap.size ((w.alloc o1).alloc o2) wa := by rw [hwa]; exact (Below.refl _ _).alloc (Nat.le_refl _) o3
  have HX := Lib.hid (hx0.below ha1 (by omega))
  have HZ := Lib.hid (hz0.below ha2 (by omega))
  have HZF := Lib.hid (fun off => free_below ha2 (by omega) hzf off)
  rw [← hwa] at hy0 hyf hb3 s3
  have HY := Lib.hid hy0
  have HYF := Lib.hid hyf
  have HB := Lib.hid hb3
  have HS := Lib.hid hs
  have S3 := Lib.hid s3
  have HW := Lib.hid hwa
  have HI := Lib.hid (H.out.to_below HB.out)
  clear hx0 hz0 hzf hy0 hyf hb1 hb2 hb3 s1 s2 s3 ha1 ha2 hwa
  subst ho1
  subst ho2
  subst ho3
  clear hs
  go_enter Try.func101, Try.ntmps101
  go_wp2_with fail
  rw [← HW.out, ← HS.out]
  refine (toIntS_any _ _ _ p _ HI.out hm).mono ?_
  rintro e w1 ⟨rfl, ho, hb⟩
  rw [S3.out] at ho ⊢
  have hsz := hb.size
  rw [S3.out] at hsz
  obtain ⟨x0, x1, x2, x3, x4⟩ := HX.out.keep hb
  obtain ⟨y0, y1, y2, y3, y4⟩ := HY.out.keep hb
  obtain ⟨z0, z1, z2, z3, z4⟩ := HZ.out.keep hb
  have zf := fun off => free_below hb (by rw [S3.out]; omega) HZF.out off
  have yf := fun off => free_below hb (by rw [S3.out]; omega) HYF.out off
  have fz0 := zf 0; have fz1 := zf 1; have fz2 := zf 2; have fz3 := zf 3; have fz4 := zf 4
  have fy1 := yf 1; have fy2 := yf 2; have fy3 := yf 3; have fy4 := yf 4
  have HO := Lib.hid (own_base (base' := w.heap.size) ho (by have := HS.out; omega))
  have HG := Lib.hid (show w.heap.size + 3 ≤ s + 1 + 1 + 1 by have := HS.out; omega)
  have HB1 := Lib.hid (HB.out.trans (hb.mono HB.out.size))
  have HSS := Lib.hid HS.out
  clear zf yf ho hb x0 x1
  go_wp2
  refine bodyPost_ret (v := .agg #[.int .i64 k, .slice (some ⟨s + 1 + 1 + 1, 0, none⟩) m m, .int .i64 a, .int .i64 f, .int .i64 z]) ?_ rfl ?_
  · rw [results_box1 rfl]
    go_simp
  · have hs := HSS.out
    have st (wv : World) (b o : Nat) (u : Value) (hb : b < s + 1 + 1 + 1) (h : wv.ownsRow w.heap.size 3 1 (.slice (some ⟨s + 1 + 1 + 1, 0, none⟩) m m) m (ints p)) : (wv.setCell ⟨b, o, none⟩ u).ownsRow w.heap.size 3 1 (.slice (some ⟨s + 1 + 1 + 1, 0, none⟩) m m) m (ints p) := own_apart h (Kit.grown_set _ _ _ _) (.inr fun e => by simp only [Value.ownBlock] at e; injection e with e; omega)
    have sb (wv : World) (b o : Nat) (u : Value) (hb : s ≤ b) (h : Below w.heap.size w wv) : Below w.heap.size w (wv.setCell ⟨b, o, none⟩ u) := h.setCell (p := ⟨b, o, none⟩) (by simp only; omega) u
    exact ⟨_, rfl, st _ _ _ _ (by omega) (st _ _ _ _ (by omega) (st _ _ _ _ (by omega) (st _ _ _ _ (by omega) (st _ _ _ _ (by omega) (st _ _ _ _ (by omega) (st _ _ _ _ (by omega) (st _ _ _ _ (by omega) (st _ _ _ _ (by omega) HO.out)))))))), sb _ _ _ _ (by omega) (sb _ _ _ _ (by omega) (sb _ _ _ _ (by omega) (sb _ _ _ _ (by omega) (sb _ _ _ _ (by omega) (sb _ _ _ _ (by omega) (sb _ _ _ _ (by omega) (sb _ _ _ _ (by omega) (sb _ _ _ _ (by omega) HB1.out)))))))), HG.out⟩
set_option maxHeartbeats 1600000 in
set_option maxRecDepth 100000 in
theorem eqOp_any (k a f z : Int) (p : List Int) (P P' : Option Addr) (m q m' q' : Nat) (w : World) (h : IntIn w w.heap.size P m p) (h' : IntIn w w.heap.size P' m' p) (hm : m ≤ 1048576) (hm' : m' ≤ 1048576) :
    Calls Try.prog 95 #[.agg #[.int .i64 k, .slice P m q, .int .i64 a, .int .i64 f, .int .i64 z], .agg #[.int .i64 k, .slice P' m' q', .int .i64 a, .int .i64 f, .int .i64 z]] w fun e w' => e = .returned (.bool true) ∧ Below w.heap.size w w' := by
  have H := Lib.hid h
  have H' := Lib.hid h'
  clear h h'
  obtain ⟨o1, ho1⟩ : ∃ o, o = Obj.cells #[.int .i64 k, .slice P m q, .int .i64 a, .int .i64 f, .int .i64 z] 39 := ⟨_, rfl⟩
  obtain ⟨o2, ho2⟩ : ∃ o, o = Obj.cells #[.int .i64 k, .slice P' m' q', .int .i64 a, .int .i64 f, .int .i64 z] 39 := ⟨_, rfl⟩
  obtain ⟨s, hs⟩ : ∃ s, s = w.heap.size := ⟨_, rfl⟩
  have hx0 : Bx5 (w.alloc o1) s (.int .i64 k) (.slice P m q) (.int .i64 a) (.int .i64 f) (.int .i64 z) := by rw [ho1, hs]; exact Bx5.made _ _ _ _ _ _ _
  have s1 : (w.alloc o1).heap.size = s + 1 := by rw [hs]; simp
  have s2 : ((w.alloc o1).alloc o2).heap.size = s + 1 + 1 := by rw [hs]; simp
  have hb1 := (Below.refl w.heap.size w).alloc (Nat.le_refl _) o1
  have hb2 := hb1.alloc hb1.size o2
  have hz0 : Bx5 ((w.alloc o1).alloc o2) (s + 1) (.int .i64 k) (.slice P' m' q') (.int .i64 a) (.int .i64 f) (.int .i64 z) := by rw [← s1, ho2]; exact Bx5.made _ _ _ _ _ _ _
  obtain ⟨wa, hwa⟩ : ∃ wa, wa = (w.alloc o1).alloc o2 := ⟨_, rfl⟩
  have ha1 : Below (w.alloc o1).heap.size (w.alloc o1) wa := by rw [hwa]; exact (Below.refl _ _).alloc (Nat.le_refl _) o2
  have HX := Lib.hid (hx0.below ha1 (by omega))
  rw [← hwa] at hz0 hb2
  have HZ := Lib.hid hz0
  have HB := Lib.hid hb2
  have HS := Lib.hid hs
  have HW := Lib.hid hwa
  have HI := Lib.hid (H.out.to_below HB.out)
  have HI' := Lib.hid (H'.out.to_below HB.out)
  have HE := Lib.hid (eqIntS_any P P' m q m' q' p p wa HI.out HI'.out hm hm')
  have qq : decide (p = p) = true := decide_eq_true rfl
  clear hx0 hz0 hb1 hb2 s1 s2 ha1 hwa
  subst ho1
  subst ho2
  clear hs
  go_enter Try.func95, Try.ntmps95
  go_wp2_with fail
  rw [← HW.out, ← HS.out]
  refine HE.out.mono ?_
  rintro e w1 ⟨rfl, hb⟩
  rw [qq]
  obtain ⟨x0, x1, x2, x3, x4⟩ := HX.out.keep hb
  obtain ⟨y0, y1, y2, y3, y4⟩ := HZ.out.keep hb
  have HB1 := Lib.hid (HB.out.trans (hb.mono HB.out.size))
  clear hb qq
  go_wp2
  go_ret
  exact ⟨rfl, HB1.out⟩
end Go.Proofs.Ytgkkeejhfofcaaa
