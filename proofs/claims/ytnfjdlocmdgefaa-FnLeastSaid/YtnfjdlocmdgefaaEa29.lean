/- Texts of one claim laid into one file, in build order: Mem2, TreeD, DrawL2. -/
import Derived.Test.YtnfjdlocmdgefaaEa2
import Derived.Test.YtnfjdlocmdgefaaEa28
import Derived.Outline
/- Contracts (Mem2). -/
namespace Go.Proofs.Ytnfjdlocmdgefaa
open Go.RowKit
set_option linter.unusedVariables false

theorem append_node {P : Program} (w : World) {ops : Array Oper} {rest : List Oper} {o : Oper} {a : Act} {Q : Exit → Act → World → Prop} (hgd : o.guard = none) (s x : Operand) (t : TypeId)
    (ho : o.op = .call { callee := .builtin .append, args := #[s, x], argTypes := #[t, t] })
    (base : Nat) (e : TypeId) (i : TypeInfo) (ht : P.underlying t = some (.slice e)) (hi : P.info? e = some i) (hz : i.zero = some (.agg #[.int .i64 0, .int .i64 0]))
    (hsize : i.size = 2) (hby : i.bytes = 16) (v : Value) (n : Nat) (l : Tr) (hs : a.eval s = v) (hown : w.ownsRow base e 2 v n (Tr.cells l)) (hn : n = l.length)
    (b1 b2 : Int) (hx : a.eval x = .slice (some ⟨w.heap.size, 0, none⟩) 1 1)
    (h63 : l.length + 1 ≤ 1073741824) (hbase : base ≤ w.heap.size)
    (h : ∀ v' w', w'.ownsRow base e 2 v' (l ++ [(b1, b2)]).length (Tr.cells (l ++ [(b1, b2)])) → (w.alloc (.cells #[.int .i64 b1, .int .i64 b2] e)).grownBy w' v.ownBlock → wpList P ops Q rest (a.put o.dst v') w') :
    wpList P ops Q (o :: rest) a (w.alloc (.cells #[.int .i64 b1, .int .i64 b2] e)) := by
  subst hn
  refine wpList_append_own _ hgd s x t ho base e i (.agg #[.int .i64 0, .int .i64 0]) 2 16 ht hi hz hsize hby rfl (by decide) v l.length (Tr.cells l) hs (hown.alloc _) ⟨w.heap.size, 0, none⟩ 1 1 (Tr.cells [(b1, b2)]) hx (by simp [Tr.cells]) ?_ (Tr.cells_cell _) (by unfold maxLen; omega) (by omega) (by simp; omega) ?_
  · intro j u hj
    have hj2 : j < 2 := by
      have := (List.getElem?_eq_some_iff.1 hj).1
      simpa [Tr.cells] using this
    have : j = 0 ∨ j = 1 := by omega
    rcases this with rfl | rfl <;> (simp [Tr.cells] at hj; subst hj; simp [Addr.add])
  · intro v' w' h2 h3 _
    refine h v' w' ?_ h3
    rw [Tr.cells_append, List.length_append]
    exact h2

end Go.Proofs.Ytnfjdlocmdgefaa

/- Contracts (TreeD). -/
namespace Go.Proofs.Ytnfjdlocmdgefaa
open Go.RowKit
set_option linter.unusedVariables false

theorem info_ndD : (Try.prog.info? 61).map (fun i => (i.zero, i.size, i.bytes)) = some (some (.agg #[.int .i64 0, .int .i64 0]), 2, 16) := by kernel_rfl
theorem Tr.dsnoc {xs : Tr} {x : Int × Int} (h : ∀ j, j < xs.length → 0 ≤ Tr.d xs j ∧ Tr.d xs j ≤ 12) (h2 : 0 ≤ x.2 ∧ x.2 ≤ 12) : ∀ j, j < (xs ++ [x]).length → 0 ≤ Tr.d (xs ++ [x]) j ∧ Tr.d (xs ++ [x]) j ≤ 12 := by
  intro j hj
  rw [List.length_append, List.length_singleton] at hj
  by_cases e : j < xs.length
  · have := h j e
    unfold Tr.d at this ⊢
    rw [List.getD_eq_getElem?_getD, List.getElem?_append_left e, ← List.getD_eq_getElem?_getD]
    exact this
  · obtain rfl : j = xs.length := by omega
    unfold Tr.d
    simpa [List.getD_eq_getElem?_getD] using h2
set_option maxHeartbeats 1600000 in
set_option maxRecDepth 100000 in
theorem l3Tree_ex (w : World) (B : Nat) (k : Code) (most : Int) (hm : most ≤ 30) (c : CurX w B k) :
    Calls Try.prog 54 #[.pointer (some ⟨B, 0, none⟩), .int .i64 most] w fun e w' => ∃ (xs : Tr) (A : Option Addr) (cp : Nat), e = .returned (.slice A xs.length cp) ∧ w'.ownsRow w.heap.size 61 2 (.slice A xs.length cp) xs.length (Tr.cells xs) ∧
      (1 ≤ xs.length ∧ ((xs.length : Int) ≤ most ∨ xs.length = 1)) ∧ (∀ j, j < xs.length → 0 ≤ Tr.d xs j ∧ Tr.d xs j ≤ 12) ∧ CurX w' B k ∧ w.grownBy w' (some B) := by
  have HC := Lib.hid c
  have hBB := c.lt
  have HG := Lib.hid (Kit.grown_refl w (some B))
  clear c
  obtain ⟨i0, hi, hz0, hz1, hz2⟩ := info_parts info_ndD
  have Hi := Lib.hid hi
  clear hi
  go_enter Try.func54, Try.ntmps54
  go_wp2_with fail
  refine (l2Label_ex _ B k HC.out).mono ?_
  rintro e w1 ⟨v, rfl, c, g⟩
  have HC := Lib.hid c
  have HG := Lib.hid (Kit.grown_trans HG.out g)
  have hsx := HG.out.size
  have Ho := Lib.hid (World.ownsRow_lit (base := w.heap.size) (e := 61) (size := 2) w1 #[.int .i64 v, .int .i64 0] 1 hsx (by decide) rfl)
  have HC := Lib.hid (HC.out.alloc (.cells #[.int .i64 v, .int .i64 0] 61))
  have HG := Lib.hid (Kit.grown_trans HG.out (Kit.grown_alloc w1 (.cells #[.int .i64 v, .int .i64 0] 61) (some B)))
  clear c g
  go_wp2_with fail
  refine (l1Below_ex _ B k most HC.out).mono ?_
  rintro e w2 ⟨n, rfl, hn, c, g⟩
  have HC := Lib.hid c
  have HG := Lib.hid (Kit.grown_trans HG.out g)
  have Ho := Lib.hid (Kit.keptRow Ho.out hBB g)
  clear c g
  go_wp2
  go_loopw [6, 5] (fun nv lv wr => ∃ (r : Nat) (xs : Tr), nv = .int .i64 r ∧ ((r + xs.length : Nat) : Int) ≤ max 1 most ∧ wr.ownsRow w.heap.size 61 2 lv xs.length (Tr.cells xs) ∧ 1 ≤ xs.length ∧ (∀ j, j < xs.length → 0 ≤ Tr.d xs j ∧ Tr.d xs j ≤ 12) ∧ CurX wr B k ∧ w.grownBy wr (some B)) (fun n _ _ => (intOf n).toNat)
  case atStart =>
    refine ⟨n, [((v : Nat), 0)], rfl, by simp; omega, Ho.out, by simp, fun j hj => ?_, HC.out, HG.out⟩
    obtain rfl : j = 0 := by simpa using hj
    simp [Tr.d]
  case round =>
    clear Ho HC HG hn hsx
    obtain ⟨r, xs, rfl, hr, hown, hlen, hbd, hc, hg⟩ := hrel
    have Ho := Lib.hid hown
    have HC := Lib.hid hc
    have HG := Lib.hid hg
    have Hbd := Lib.hid hbd
    clear hown hc hg hbd
    obtain ⟨A', c', rfl⟩ := own_slice Ho.out
    have hl31 : xs.length ≤ 31 := by omega
    by_cases h0 : r = 0
    · subst h0
      go_wp2
      go_ret
      exact ⟨xs, A', c', rfl, Ho.out, ⟨hlen, by omega⟩, Hbd.out, HC.out, HG.out⟩
    · have e0 : decide (0 < r) = true := by simp; omega
      obtain ⟨gk, rfl, _, _⟩ := own_form Ho.out (by omega)
      have hl := own_odd Ho.out (k := xs.length - 1) (by omega)
      have hdb := Hbd.out (xs.length - 1) (by omega)
      obtain ⟨d, hd⟩ : ∃ d, d = Tr.d xs (xs.length - 1) := ⟨_, rfl⟩
      rw [← hd] at hl hdb
      clear hd
      have a1 : IntKind.i64.wrap ((xs.length : Int) - 1) = (xs.length : Int) - 1 := Kit.w64 (by omega) (by omega)
      have a2 : ((xs.length : Int) - 1).toNat = xs.length - 1 := by omega
      have a3 : (1 : Int) ≤ (xs.length : Int) := by omega
      have a4 : (xs.length : Int) - 1 < (xs.length : Int) := by omega
      have a5 : IntKind.i64.wrap (d + 1) = d + 1 := Kit.w64 (by omega) (by omega)
      go_wp2_with fail
      refine (l1Below_ex _ B k (d + 1) HC.out).mono ?_
      rintro e w3 ⟨t, rfl, ht, c, g⟩
      have HC := Lib.hid c
      have HG := Lib.hid (Kit.grown_trans HG.out g)
      have Ho := Lib.hid (Kit.keptRow Ho.out hBB g)
      clear c g
      have a6 : IntKind.i64.wrap (1 + (t : Int)) = 1 + (t : Int) := Kit.w64 (by omega) (by omega)
      go_wp2_with fail
      refine (l1Once_ex _ B k 2 HC.out).mono ?_
      rintro e w4 ⟨b, rfl, c, g⟩
      have HC := Lib.hid c
      have HG := Lib.hid (Kit.grown_trans HG.out g)
      have Ho := Lib.hid (Kit.keptRow Ho.out hBB g)
      clear c g
      cases b with
      | true =>
        by_cases h12 : 12 < d + 1
        · have e12 : decide (12 < d + 1) = true := by simpa using h12
          go_wp2_with fail
          refine (l2Label_ex _ B k HC.out).mono ?_
          rintro e w5 ⟨q, rfl, c, g⟩
          have HC := Lib.hid c
          have HG := Lib.hid (Kit.grown_trans HG.out g)
          have Ho := Lib.hid (Kit.keptRow Ho.out hBB g)
          clear c g
          have hsx := HG.out.size
          go_wp2_with (at_builtin; go_loud (refine append_node w5 rfl _ _ 24 rfl w.heap.size 61 i0 Try.underlying24 Hi.out hz0 hz1 hz2 (.slice (some ⟨gk, 0, none⟩) xs.length c') xs.length xs rfl Ho.out rfl (q : Int) (1) rfl (by omega) hsx ?_); intro v' w6 hown hgrow)
          have hg6 := Kit.grown_own HG.out (Nat.le_refl _) Ho.out hgrow
          have hc6 := (HC.out.alloc (.cells #[.int .i64 (q : Int), .int .i64 (1)] 61)).kept hgrow (fun j hj => by have := (Ho.out.lt j hj).1; omega)
          go_roundw
          case rel => exact ⟨r - 1, xs ++ [((q : Int), 1)], by go_num, by simp; omega, hown, by simp, Tr.dsnoc Hbd.out (by constructor <;> simp <;> omega), hc6, hg6⟩
          case measure => simp [intOf]; omega
        · have e12 : decide (12 < d + 1) = false := by simpa using h12
          go_wp2_with fail
          refine (l2Label_ex _ B k HC.out).mono ?_
          rintro e w5 ⟨q, rfl, c, g⟩
          have HC := Lib.hid c
          have HG := Lib.hid (Kit.grown_trans HG.out g)
          have Ho := Lib.hid (Kit.keptRow Ho.out hBB g)
          clear c g
          have hsx := HG.out.size
          go_wp2_with (at_builtin; go_loud (refine append_node w5 rfl _ _ 24 rfl w.heap.size 61 i0 Try.underlying24 Hi.out hz0 hz1 hz2 (.slice (some ⟨gk, 0, none⟩) xs.length c') xs.length xs rfl Ho.out rfl (q : Int) ((d + 1)) rfl (by omega) hsx ?_); intro v' w6 hown hgrow)
          have hg6 := Kit.grown_own HG.out (Nat.le_refl _) Ho.out hgrow
          have hc6 := (HC.out.alloc (.cells #[.int .i64 (q : Int), .int .i64 ((d + 1))] 61)).kept hgrow (fun j hj => by have := (Ho.out.lt j hj).1; omega)
          go_roundw
          case rel => exact ⟨r - 1, xs ++ [((q : Int), (d + 1))], by go_num, by simp; omega, hown, by simp, Tr.dsnoc Hbd.out (by constructor <;> simp <;> omega), hc6, hg6⟩
          case measure => simp [intOf]; omega
      | false =>
        by_cases h12 : 12 < 1 + (t : Int)
        · have e12 : decide (12 < 1 + (t : Int)) = true := by simpa using h12
          go_wp2_with fail
          refine (l2Label_ex _ B k HC.out).mono ?_
          rintro e w5 ⟨q, rfl, c, g⟩
          have HC := Lib.hid c
          have HG := Lib.hid (Kit.grown_trans HG.out g)
          have Ho := Lib.hid (Kit.keptRow Ho.out hBB g)
          clear c g
          have hsx := HG.out.size
          go_wp2_with (at_builtin; go_loud (refine append_node w5 rfl _ _ 24 rfl w.heap.size 61 i0 Try.underlying24 Hi.out hz0 hz1 hz2 (.slice (some ⟨gk, 0, none⟩) xs.length c') xs.length xs rfl Ho.out rfl (q : Int) (1) rfl (by omega) hsx ?_); intro v' w6 hown hgrow)
          have hg6 := Kit.grown_own HG.out (Nat.le_refl _) Ho.out hgrow
          have hc6 := (HC.out.alloc (.cells #[.int .i64 (q : Int), .int .i64 (1)] 61)).kept hgrow (fun j hj => by have := (Ho.out.lt j hj).1; omega)
          go_roundw
          case rel => exact ⟨r - 1, xs ++ [((q : Int), 1)], by go_num, by simp; omega, hown, by simp, Tr.dsnoc Hbd.out (by constructor <;> simp <;> omega), hc6, hg6⟩
          case measure => simp [intOf]; omega
        · have e12 : decide (12 < 1 + (t : Int)) = false := by simpa using h12
          go_wp2_with fail
          refine (l2Label_ex _ B k HC.out).mono ?_
          rintro e w5 ⟨q, rfl, c, g⟩
          have HC := Lib.hid c
          have HG := Lib.hid (Kit.grown_trans HG.out g)
          have Ho := Lib.hid (Kit.keptRow Ho.out hBB g)
          clear c g
          have hsx := HG.out.size
          go_wp2_with (at_builtin; go_loud (refine append_node w5 rfl _ _ 24 rfl w.heap.size 61 i0 Try.underlying24 Hi.out hz0 hz1 hz2 (.slice (some ⟨gk, 0, none⟩) xs.length c') xs.length xs rfl Ho.out rfl (q : Int) ((1 + (t : Int))) rfl (by omega) hsx ?_); intro v' w6 hown hgrow)
          have hg6 := Kit.grown_own HG.out (Nat.le_refl _) Ho.out hgrow
          have hc6 := (HC.out.alloc (.cells #[.int .i64 (q : Int), .int .i64 ((1 + (t : Int)))] 61)).kept hgrow (fun j hj => by have := (Ho.out.lt j hj).1; omega)
          go_roundw
          case rel => exact ⟨r - 1, xs ++ [((q : Int), (1 + (t : Int)))], by go_num, by simp; omega, hown, by simp, Tr.dsnoc Hbd.out (by constructor <;> simp <;> omega), hc6, hg6⟩
          case measure => simp [intOf]; omega

end Go.Proofs.Ytnfjdlocmdgefaa

/- A draw of any label. -/
namespace Go.Proofs.Ytnfjdlocmdgefaa
open Go.RowKit
set_option linter.unusedVariables false

theorem l1PickInt_lit (w : World) (B : Nat) (k : Code) (c : CurX w B k) (C : Array Value) (t : TypeId) (xs : List Int) (n : Nat) (hC : C = (xs.map (Value.int .i64)).toArray) (hn : n = xs.length) (hpos : 0 < (n : Int)) (hn2 : (n : Int) ≤ 1000) :
    Calls Try.prog 83 #[.pointer (some ⟨B, 0, none⟩), .slice (some ⟨w.heap.size, 0, none⟩) n n] (w.alloc (.cells C t)) fun e w' => ∃ v : Int, e = .returned (.int .i64 v) ∧ CurX w' B k ∧ w.grownBy w' (some B) := by
  refine (l1PickInt_ex _ B w.heap.size k (c.alloc _) xs n hn hpos hn2 c.lt (by simp) (fun j hj => ?_)).mono fun e w' ⟨v, h1, h2, h3⟩ => ⟨v, h1, h2, Kit.grown_trans (Kit.grown_alloc w _ (some B)) h3⟩
  rw [World.cell?_alloc_at (hn := rfl), hC]
  simp [List.getD_eq_getElem?_getD, hj]
set_option maxHeartbeats 800000 in
theorem l2Any_ex (w : World) (B : Nat) (k : Code) (c : CurX w B k) :
    Calls Try.prog 85 #[.pointer (some ⟨B, 0, none⟩)] w fun e w' => ∃ v : Int, e = .returned (.int .i64 v) ∧ CurX w' B k ∧ w.grownBy w' (some B) := by
  have HC := Lib.hid c
  clear c
  go_enter Try.func85, Try.ntmps85
  go_wp2_with fail
  refine (l1PickInt_lit w B k HC.out _ _ [0, 1, 2, 3, 5, 6, -1] 7 rfl rfl (by decide) (by decide)).mono ?_
  rintro e w4 ⟨x, rfl, c, g⟩
  go_wp2
  go_ret
  exact ⟨x, rfl, c, g⟩

end Go.Proofs.Ytnfjdlocmdgefaa
