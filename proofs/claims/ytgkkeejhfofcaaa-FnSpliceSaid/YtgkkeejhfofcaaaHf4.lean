/- Texts of one claim laid into one file, in build order: TreeD, DrawL2, AnyD. -/
import Derived.Test.YtgkkeejhfofcaaaHf2
import Derived.Test.YtgkkeejhfofcaaaHf3
import Derived.Outline
/- Contracts (TreeD). -/
namespace Go.Proofs.Ytgkkeejhfofcaaa
open Go.RowKit
set_option linter.unusedVariables false

theorem info_ndD : (Try.prog.info? 47).map (fun i => (i.zero, i.size, i.bytes)) = some (some (.agg #[.int .i64 0, .int .i64 0]), 2, 16) := by kernel_rfl
theorem Tr.dsnoc {xs : Tr} {x : Int × Int} (h : ∀ j, j < xs.length → 0 ≤ Tr.d xs j ∧ Tr.d xs j ≤ 12) (h2 : 0 ≤ x.2 ∧ x.2 ≤ 12) : ∀ j, j < (xs ++ [x]).length → 0 ≤ Tr.d (xs ++ [x]) j ∧ Tr.d (xs ++ [x]) j ≤ 12 := by
  intro j hj
  rw [List.length_append, List.length_singleton] at hj
  by_cases e : j < xs.length
  · have := h j e
    unfold Tr.d at this ⊢
    rw [List.getD_eq_getElem?_getD, List.getElem?_append_left e, ← List.getD_eq_getElem?_getD]
    exact this
  · obtain rfl : j = xs.length := by omega
    unfold Tr.d
    simpa [List.getD_eq_getElem?_getD] using h2
set_option maxHeartbeats 1600000 in
set_option maxRecDepth 100000 in
theorem l3Tree_ex (w : World) (B : Nat) (k : Code) (most : Int) (hm : most ≤ 30) (c : CurX w B k) :
    Calls Try.prog 109 #[.pointer (some ⟨B, 0, none⟩), .int .i64 most] w fun e w' => ∃ (xs : Tr) (A : Option Addr) (cp : Nat), e = .returned (.slice A xs.length cp) ∧ w'.ownsRow w.heap.size 47 2 (.slice A xs.length cp) xs.length (Tr.cells xs) ∧
      (1 ≤ xs.length ∧ ((xs.length : Int) ≤ most ∨ xs.length = 1)) ∧ (∀ j, j < xs.length → 0 ≤ Tr.d xs j ∧ Tr.d xs j ≤ 12) ∧ CurX w' B k ∧ w.grownBy w' (some B) := by
  have HC := Lib.hid c
  have hBB := c.lt
  have HG := Lib.hid (Kit.grown_refl w (some B))
  clear c
  obtain ⟨i0, hi, hz0, hz1, hz2⟩ := info_parts info_ndD
  have Hi := Lib.hid hi
  clear hi
  go_enter Try.func109, Try.ntmps109
  go_wp2_with fail
  refine (l2Label_ex _ B k HC.out).mono ?_
  rintro e w1 ⟨v, rfl, c, g⟩
  have HC := Lib.hid c
  have HG := Lib.hid (Kit.grown_trans HG.out g)
  have hsx := HG.out.size
  have Ho := Lib.hid (World.ownsRow_lit (base := w.heap.size) (e := 47) (size := 2) w1 #[.int .i64 v, .int .i64 0] 1 hsx (by decide) rfl)
  have HC := Lib.hid (HC.out.alloc (.cells #[.int .i64 v, .int .i64 0] 47))
  have HG := Lib.hid (Kit.grown_trans HG.out (Kit.grown_alloc w1 (.cells #[.int .i64 v, .int .i64 0] 47) (some B)))
  clear c g
  go_wp2_with fail
  refine (l1Below_ex _ B k most HC.out).mono ?_
  rintro e w2 ⟨n, rfl, hn, c, g⟩
  have HC := Lib.hid c
  have HG := Lib.hid (Kit.grown_trans HG.out g)
  have Ho := Lib.hid (Kit.keptRow Ho.out hBB g)
  clear c g
  go_wp2
  go_loopw [6, 5] (fun nv lv wr => ∃ (r : Nat) (xs : Tr), nv = .int .i64 r ∧ ((r + xs.length : Nat) : Int) ≤ max 1 most ∧ wr.ownsRow w.heap.size 47 2 lv xs.length (Tr.cells xs) ∧ 1 ≤ xs.length ∧ (∀ j, j < xs.length → 0 ≤ Tr.d xs j ∧ Tr.d xs j ≤ 12) ∧ CurX wr B k ∧ w.grownBy wr (some B)) (fun n _ _ => (intOf n).toNat)
  case atStart =>
    refine ⟨n, [((v : Nat), 0)], rfl, by simp; omega, Ho.out, by simp, fun j hj => ?_, HC.out, HG.out⟩
    obtain rfl : j = 0 := by simpa using hj
    simp [Tr.d]
  case round =>
    clear Ho HC HG hn hsx
    obtain ⟨r, xs, rfl, hr, hown, hlen, hbd, hc, hg⟩ := hrel
    have Ho := Lib.hid hown
    have HC := Lib.hid hc
    have HG := Lib.hid hg
    have Hbd := Lib.hid hbd
    clear hown hc hg hbd
    obtain ⟨A', c', rfl⟩ := own_slice Ho.out
    have hl31 : xs.length ≤ 31 := by omega
    by_cases h0 : r = 0
    · subst h0
      go_wp2
      go_ret
      exact ⟨xs, A', c', rfl, Ho.out, ⟨hlen, by omega⟩, Hbd.out, HC.out, HG.out⟩
    · have e0 : decide (0 < r) = true := by simp; omega
      obtain ⟨gk, rfl, _, _⟩ := own_form Ho.out (by omega)
      have hl := own_odd Ho.out (k := xs.length - 1) (by omega)
      have hdb := Hbd.out (xs.length - 1) (by omega)
      obtain ⟨d, hd⟩ : ∃ d, d = Tr.d xs (xs.length - 1) := ⟨_, rfl⟩
      rw [← hd] at hl hdb
      clear hd
      have a1 : IntKind.i64.wrap ((xs.length : Int) - 1) = (xs.length : Int) - 1 := Kit.w64 (by omega) (by omega)
      have a2 : ((xs.length : Int) - 1).toNat = xs.length - 1 := by omega
      have a3 : (1 : Int) ≤ (xs.length : Int) := by omega
      have a4 : (xs.length : Int) - 1 < (xs.length : Int) := by omega
      have a5 : IntKind.i64.wrap (d + 1) = d + 1 := Kit.w64 (by omega) (by omega)
      go_wp2_with fail
      refine (l1Below_ex _ B k (d + 1) HC.out).mono ?_
      rintro e w3 ⟨t, rfl, ht, c, g⟩
      have HC := Lib.hid c
      have HG := Lib.hid (Kit.grown_trans HG.out g)
      have Ho := Lib.hid (Kit.keptRow Ho.out hBB g)
      clear c g
      have a6 : IntKind.i64.wrap (1 + (t : Int)) = 1 + (t : Int) := Kit.w64 (by omega) (by omega)
      go_wp2_with fail
      refine (l1Once_ex _ B k 2 HC.out).mono ?_
      rintro e w4 ⟨b, rfl, c, g⟩
      have HC := Lib.hid c
      have HG := Lib.hid (Kit.grown_trans HG.out g)
      have Ho := Lib.hid (Kit.keptRow Ho.out hBB g)
      clear c g
      cases b with
      | true =>
        by_cases h12 : 12 < d + 1
        · have e12 : decide (12 < d + 1) = true := by simpa using h12
          go_wp2_with fail
          refine (l2Label_ex _ B k HC.out).mono ?_
          rintro e w5 ⟨q, rfl, c, g⟩
          have HC := Lib.hid c
          have HG := Lib.hid (Kit.grown_trans HG.out g)
          have Ho := Lib.hid (Kit.keptRow Ho.out hBB g)
          clear c g
          have hsx := HG.out.size
          go_wp2_with (at_builtin; go_loud (refine append_node w5 rfl _ _ 24 rfl w.heap.size 47 i0 Try.underlying24 Hi.out hz0 hz1 hz2 (.slice (some ⟨gk, 0, none⟩) xs.length c') xs.length xs rfl Ho.out rfl (q : Int) (1) rfl (by omega) hsx ?_); intro v' w6 hown hgrow)
          have hg6 := Kit.grown_own HG.out (Nat.le_refl _) Ho.out hgrow
          have hc6 := (HC.out.alloc (.cells #[.int .i64 (q : Int), .int .i64 (1)] 47)).kept hgrow (fun j hj => by have := (Ho.out.lt j hj).1; omega)
          go_roundw
          case rel => exact ⟨r - 1, xs ++ [((q : Int), 1)], by go_num, by simp; omega, hown, by simp, Tr.dsnoc Hbd.out (by constructor <;> simp <;> omega), hc6, hg6⟩
          case measure => simp [intOf]; omega
        · have e12 : decide (12 < d + 1) = false := by simpa using h12
          go_wp2_with fail
          refine (l2Label_ex _ B k HC.out).mono ?_
          rintro e w5 ⟨q, rfl, c, g⟩
          have HC := Lib.hid c
          have HG := Lib.hid (Kit.grown_trans HG.out g)
          have Ho := Lib.hid (Kit.keptRow Ho.out hBB g)
          clear c g
          have hsx := HG.out.size
          go_wp2_with (at_builtin; go_loud (refine append_node w5 rfl _ _ 24 rfl w.heap.size 47 i0 Try.underlying24 Hi.out hz0 hz1 hz2 (.slice (some ⟨gk, 0, none⟩) xs.length c') xs.length xs rfl Ho.out rfl (q : Int) ((d + 1)) rfl (by omega) hsx ?_); intro v' w6 hown hgrow)
          have hg6 := Kit.grown_own HG.out (Nat.le_refl _) Ho.out hgrow
          have hc6 := (HC.out.alloc (.cells #[.int .i64 (q : Int), .int .i64 ((d + 1))] 47)).kept hgrow (fun j hj => by have := (Ho.out.lt j hj).1; omega)
          go_roundw
          case rel => exact ⟨r - 1, xs ++ [((q : Int), (d + 1))], by go_num, by simp; omega, hown, by simp, Tr.dsnoc Hbd.out (by constructor <;> simp <;> omega), hc6, hg6⟩
          case measure => simp [intOf]; omega
      | false =>
        by_cases h12 : 12 < 1 + (t : Int)
        · have e12 : decide (12 < 1 + (t : Int)) = true := by simpa using h12
          go_wp2_with fail
          refine (l2Label_ex _ B k HC.out).mono ?_
          rintro e w5 ⟨q, rfl, c, g⟩
          have HC := Lib.hid c
          have HG := Lib.hid (Kit.grown_trans HG.out g)
          have Ho := Lib.hid (Kit.keptRow Ho.out hBB g)
          clear c g
          have hsx := HG.out.size
          go_wp2_with (at_builtin; go_loud (refine append_node w5 rfl _ _ 24 rfl w.heap.size 47 i0 Try.underlying24 Hi.out hz0 hz1 hz2 (.slice (some ⟨gk, 0, none⟩) xs.length c') xs.length xs rfl Ho.out rfl (q : Int) (1) rfl (by omega) hsx ?_); intro v' w6 hown hgrow)
          have hg6 := Kit.grown_own HG.out (Nat.le_refl _) Ho.out hgrow
          have hc6 := (HC.out.alloc (.cells #[.int .i64 (q : Int), .int .i64 (1)] 47)).kept hgrow (fun j hj => by have := (Ho.out.lt j hj).1; omega)
          go_roundw
          case rel => exact ⟨r - 1, xs ++ [((q : Int), 1)], by go_num, by simp; omega, hown, by simp, Tr.dsnoc Hbd.out (by constructor <;> simp <;> omega), hc6, hg6⟩
          case measure => simp [intOf]; omega
        · have e12 : decide (12 < 1 + (t : Int)) = false := by simpa using h12
          go_wp2_with fail
          refine (l2Label_ex _ B k HC.out).mono ?_
          rintro e w5 ⟨q, rfl, c, g⟩
          have HC := Lib.hid c
          have HG := Lib.hid (Kit.grown_trans HG.out g)
          have Ho := Lib.hid (Kit.keptRow Ho.out hBB g)
          clear c g
          have hsx := HG.out.size
          go_wp2_with (at_builtin; go_loud (refine append_node w5 rfl _ _ 24 rfl w.heap.size 47 i0 Try.underlying24 Hi.out hz0 hz1 hz2 (.slice (some ⟨gk, 0, none⟩) xs.length c') xs.length xs rfl Ho.out rfl (q : Int) ((1 + (t : Int))) rfl (by omega) hsx ?_); intro v' w6 hown hgrow)
          have hg6 := Kit.grown_own HG.out (Nat.le_refl _) Ho.out hgrow
          have hc6 := (HC.out.alloc (.cells #[.int .i64 (q : Int), .int .i64 ((1 + (t : Int)))] 47)).kept hgrow (fun j hj => by have := (Ho.out.lt j hj).1; omega)
          go_roundw
          case rel => exact ⟨r - 1, xs ++ [((q : Int), (1 + (t : Int)))], by go_num, by simp; omega, hown, by simp, Tr.dsnoc Hbd.out (by constructor <;> simp <;> omega), hc6, hg6⟩
          case measure => simp [intOf]; omega

end Go.Proofs.Ytgkkeejhfofcaaa

/- A draw of any label. -/
namespace Go.Proofs.Ytgkkeejhfofcaaa
open Go.RowKit
set_option linter.unusedVariables false

theorem l1PickInt_lit (w : World) (B : Nat) (k : Code) (c : CurX w B k) (C : Array Value) (t : TypeId) (xs : List Int) (n : Nat) (hC : C = (xs.map (Value.int .i64)).toArray) (hn : n = xs.length) (hpos : 0 < (n : Int)) (hn2 : (n : Int) ≤ 1000) :
    Calls Try.prog 112 #[.pointer (some ⟨B, 0, none⟩), .slice (some ⟨w.heap.size, 0, none⟩) n n] (w.alloc (.cells C t)) fun e w' => ∃ v : Int, e = .returned (.int .i64 v) ∧ CurX w' B k ∧ w.grownBy w' (some B) := by
  refine (l1PickInt_ex _ B w.heap.size k (c.alloc _) xs n hn hpos hn2 c.lt (by simp) (fun j hj => ?_)).mono fun e w' ⟨v, h1, h2, h3⟩ => ⟨v, h1, h2, Kit.grown_trans (Kit.grown_alloc w _ (some B)) h3⟩
  rw [World.cell?_alloc_at (hn := rfl), hC]
  simp [List.getD_eq_getElem?_getD, hj]
set_option maxHeartbeats 800000 in
theorem l2Any_ex (w : World) (B : Nat) (k : Code) (c : CurX w B k) :
    Calls Try.prog 111 #[.pointer (some ⟨B, 0, none⟩)] w fun e w' => ∃ v : Int, e = .returned (.int .i64 v) ∧ CurX w' B k ∧ w.grownBy w' (some B) := by
  have HC := Lib.hid c
  clear c
  go_enter Try.func111, Try.ntmps111
  go_wp2_with fail
  refine (l1PickInt_lit w B k HC.out _ _ [0, 1, 2, 3, 5, 6, -1] 7 rfl rfl (by decide) (by decide)).mono ?_
  rintro e w4 ⟨x, rfl, c, g⟩
  go_wp2
  go_ret
  exact ⟨x, rfl, c, g⟩

end Go.Proofs.Ytgkkeejhfofcaaa

/- Contracts (AnyD). -/
namespace Go.Proofs.Ytgkkeejhfofcaaa
open Go.RowKit
set_option linter.unusedVariables false

theorem Tr.cells_setE (xs : Tr) (k : Nat) (a : Int) : (Tr.cells xs).set (k * 2) (.int .i64 a) = Tr.cells (xs.set k (a, Tr.d xs k)) := by
  induction xs generalizing k with
  | nil => simp [Tr.cells]
  | cons x l ih =>
    cases k with
    | zero => simp [Tr.cells, Tr.d]
    | succ k =>
      have := ih k
      simp only [Tr.cells, Tr.d] at this ⊢
      simpa [show (k + 1) * 2 = k * 2 + 1 + 1 by omega] using this
theorem Tr.cells_set_odd' (xs : Tr) (k : Nat) (b : Int) : (Tr.cells xs).set (k * 2 + 1) (.int .i64 b) = Tr.cells (xs.set k (Tr.l xs k, b)) := by
  induction xs generalizing k with
  | nil => simp [Tr.cells]
  | cons x l ih =>
    cases k with
    | zero => simp [Tr.cells, Tr.l]
    | succ k =>
      have := ih k
      simp only [Tr.cells, Tr.l] at this ⊢
      simpa [show (k + 1) * 2 = k * 2 + 1 + 1 by omega] using this
theorem NdIn.tail {w : World} {B n g : Nat} {xs : Tr} (h : NdIn w B (some ⟨g, 0, Option.none⟩) n xs) : NdIn w B (some ⟨g, 2, Option.none⟩) (n - 1) (xs.drop 1) := by
  refine ⟨by have := h.1; simp; omega, fun hm => ⟨_, rfl, ?_⟩, fun ad' e k hk => ?_⟩
  · obtain ⟨ad', e, hb⟩ := h.2.1 (by omega)
    obtain rfl : (⟨g, 0, Option.none⟩ : Addr) = ad' := by injection e
    exact hb
  · obtain rfl : (⟨g, 2, Option.none⟩ : Addr) = ad' := by injection e
    have hc := h.2.2 _ rfl (k + 1) (by omega)
    have hg : (xs.drop 1).getD k (0, 0) = xs.getD (k + 1) (0, 0) := by
      simp [List.getD_eq_getElem?_getD]
    have e1 : (⟨g, 2, Option.none⟩ : Addr) = (⟨g, 0, Option.none⟩ : Addr).add 2 := by simp [Addr.add]
    rw [e1, add_of_add, add_of_add, show 2 + k * 2 = (k + 1) * 2 by omega, show 2 + (k * 2 + 1) = (k + 1) * 2 + 1 by omega]
    simp only [Tr.l, Tr.d] at hc ⊢
    rw [hg]
    exact hc
/-- a slice of nodes, readable, in a block of the call's own (from B0 on) -/
def NdAt (w : World) (B0 : Nat) (A : Option Addr) (n : Nat) (xs : Tr) : Prop := NdIn w w.heap.size A n xs ∧ ∀ ad, A = some ad → B0 ≤ ad.block
theorem NdAt.of_own {w : World} {base n : Nat} {e : TypeId} {A : Option Addr} {c : Nat} {xs : Tr} (h : w.ownsRow base e 2 (.slice A n c) n (Tr.cells xs)) : NdAt w base A n xs := by
  refine ⟨NdIn.of_own h, fun ad he => ?_⟩
  rcases h.2 with ⟨h1, h2⟩ | ⟨g, cap, cur, hv, hb, _⟩
  · injection h1 with h1
    rw [h1] at he
    cases he
  · injection hv with hv
    rw [hv] at he
    injection he with he
    rw [← he]
    exact hb
def vlen : Value → Nat
  | .slice _ n _ => n
  | _ => 0
theorem NdAt.cur {w w' : World} {B B0 n : Nat} {A : Option Addr} {xs : Tr} (h : NdAt w B0 A n xs) (hB : B < B0) (hg : w.grownBy w' (some B)) : NdAt w' B0 A n xs := by
  refine ⟨⟨h.1.1, fun hn => ?_, fun ad e k hk => ?_⟩, h.2⟩
  · obtain ⟨ad, e, hb⟩ := h.1.2.1 hn
    exact ⟨ad, e, Nat.lt_of_lt_of_le hb hg.size⟩
  · obtain ⟨ad', e', hb⟩ := h.1.2.1 (by omega)
    obtain rfl : ad' = ad := by rw [e'] at e; injection e
    have hne := h.2 _ e'
    have := h.1.2.2 _ e k hk
    have q : ∀ p : Addr, p.block = ad'.block → w'.cell? p = w.cell? p := fun p hp => World.cell?_of_block (hg.block p.block (by omega) (by intro e; injection e with e; omega))
    rw [q _ (block_of_add _ _), q _ (block_of_add _ _)]
    exact this
def AnyD (w : World) (B : Nat) (k : Code) (e : Ending) (w' : World) : Prop :=
  ∃ (xs : Tr) (A : Option Addr) (n cp : Nat), e = .returned (.slice A n cp) ∧ NdAt w' w.heap.size A n xs ∧ n ≤ cp ∧ n ≤ 31 ∧ CurX w' B k ∧ w.grownBy w' (some B)
set_option maxHeartbeats 3200000 in
set_option maxRecDepth 100000 in
theorem l3Any_ex (w : World) (B : Nat) (k : Code) (most : Int) (hm : most ≤ 30) (c : CurX w B k) :
    Calls Try.prog 51 #[.pointer (some ⟨B, 0, none⟩), .int .i64 most] w (AnyD w B k) := by
  have HC := Lib.hid c
  have hBB := c.lt
  have HG := Lib.hid (Kit.grown_refl w (some B))
  clear c
  obtain ⟨i0, hi, hz0, hz1, hz2⟩ := info_parts info_ndD
  have Hi := Lib.hid hi
  clear hi
  go_enter Try.func51, Try.ntmps51
  go_wp2_with fail
  refine (l3Tree_ex w B k most hm HC.out).mono ?_
  rintro e w1 ⟨xs, A, cp, rfl, ho, ⟨hl1, hl2⟩, hbd, c, g⟩
  have HC := Lib.hid c
  have HG := Lib.hid (Kit.grown_trans HG.out g)
  have Ho := Lib.hid ho
  have Hbd := Lib.hid hbd
  obtain ⟨gk, rfl, hgk, _⟩ := own_form ho (by omega)
  clear ho c g hbd
  go_wp2_with fail
  refine (l1Below_ex _ B k (xs.length : Int) HC.out).mono ?_
  rintro e w2 ⟨q, rfl, hq, c, g⟩
  have HC := Lib.hid c
  have HG := Lib.hid (Kit.grown_trans HG.out g)
  have Ho := Lib.hid (Kit.keptRow Ho.out hBB g)
  clear c g
  have hq' : q < xs.length := by omega
  go_wp2_with fail
  refine (l1Below_ex _ B k 18 HC.out).mono ?_
  rintro e w3 ⟨v, rfl, hv, c, g⟩
  have HC := Lib.hid c
  have HG := Lib.hid (Kit.grown_trans HG.out g)
  have Ho := Lib.hid (Kit.keptRow Ho.out hBB g)
  clear c g
  have q0 : (0 : Int) ≤ (q : Int) := by omega
  have q1 : (q : Int) < (xs.length : Int) := by omega
  by_cases h0 : v = 0
  · have e0 : ((v : Int) == 0) = true := by simp [h0]
    go_wp2_with fail
    refine (l2Any_ex _ B k HC.out).mono ?_
    rintro e w4 ⟨x, rfl, c, g⟩
    have HC := Lib.hid c
    have HG := Lib.hid (Kit.grown_trans HG.out g)
    have Ho := Lib.hid (Kit.keptRow Ho.out hBB g)
    clear c g
    have c0 := own_even Ho.out (k := q) hq'
    have f0 := Ho.out.frozenAt (q * 2)
    go_wp2
    go_ret
    have ho := (Ho.out.stored (q * 2) (.int .i64 x)).1
    rw [Tr.cells_setE] at ho
    exact ⟨_, _, _, _, rfl, NdAt.of_own ho, own_cap Ho.out, by omega, HC.out.kept (Ho.out.stored (q * 2) (.int .i64 x)).2 (fun j hj => by have := (Ho.out.lt j hj).1; omega), HG.out.andThen (Ho.out.stored (q * 2) (.int .i64 x)).2 (fun j hj => .inl (by have := (Ho.out.lt j hj).1; omega))⟩
  · have e0 : ((v : Int) == 0) = false := beq_eq_false_iff_ne.2 (by omega)
    by_cases h1 : v = 1
    · have e1 : ((v : Int) == 1) = true := by simp [h1]
      have c0 := own_odd Ho.out (k := q) hq'
      have hdb := Hbd.out q hq'
      obtain ⟨d, hd⟩ : ∃ d, d = Tr.d xs q := ⟨_, rfl⟩
      rw [← hd] at c0 hdb
      clear hd
      have a5 : IntKind.i64.wrap (d + 1) = d + 1 := Kit.w64 (by omega) (by omega)
      go_wp2_with fail
      refine (l1PickInt_lit w3 B k HC.out _ _ [-1, 0, 1, 13, d + 1] 5 rfl rfl (by decide) (by decide)).mono ?_
      rintro e w4 ⟨x, rfl, c, g⟩
      have HC := Lib.hid c
      have HG := Lib.hid (Kit.grown_trans HG.out g)
      have Ho := Lib.hid (Kit.keptRow Ho.out hBB g)
      clear c g c0
      have c0 := own_odd Ho.out (k := q) hq'
      have f0 := Ho.out.frozenAt (q * 2 + 1)
      go_wp2
      go_ret
      have ho := (Ho.out.stored (q * 2 + 1) (.int .i64 x)).1
      rw [Tr.cells_set_odd'] at ho
      exact ⟨_, _, _, _, rfl, NdAt.of_own ho, own_cap Ho.out, by omega, HC.out.kept (Ho.out.stored (q * 2 + 1) (.int .i64 x)).2 (fun j hj => by have := (Ho.out.lt j hj).1; omega), HG.out.andThen (Ho.out.stored (q * 2 + 1) (.int .i64 x)).2 (fun j hj => .inl (by have := (Ho.out.lt j hj).1; omega))⟩
    · have e1 : ((v : Int) == 1) = false := beq_eq_false_iff_ne.2 (by omega)
      by_cases h2 : v = 2
      · have e2 : ((v : Int) == 2) = true := by simp [h2]
        have hcap := own_cap Ho.out
        have b1 : (1 : Int) ≤ (xs.length : Int) := by omega
        have b2 : (xs.length : Int) ≤ (cp : Int) := by omega
        by_cases hcp : cp = 1
        · subst hcp
          go_wp2
          go_ret
          exact ⟨[], _, _, _, rfl, ⟨⟨by first | rfl | (simp; omega), fun h => absurd h (by omega), fun ad e k hk => absurd hk (by omega)⟩, fun ad e => by injection e with e; rw [← e]; exact hgk⟩, by omega, by omega, HC.out, HG.out⟩
        · go_wp2
          go_ret
          exact ⟨_, _, _, _, rfl, ⟨NdIn.tail (NdIn.of_own Ho.out), fun ad e => by injection e with e; rw [← e]; exact hgk⟩, by omega, by omega, HC.out, HG.out⟩
      · have e2 : ((v : Int) == 2) = false := beq_eq_false_iff_ne.2 (by omega)
        by_cases h3 : v = 3
        · have e3 : ((v : Int) == 3) = true := by simp [h3]
          go_wp2
          go_loopw [5] (fun lv wr => ∃ ys : Tr, wr.ownsRow w.heap.size 47 2 lv ys.length (Tr.cells ys) ∧ ys.length ≤ 31 ∧ CurX wr B k ∧ w.grownBy wr (some B)) (fun lv _ => 40 - vlen lv)
          case atStart => exact ⟨xs, Ho.out, by first | omega | decide, HC.out, HG.out⟩
          case round =>
            clear Ho HC HG
            obtain ⟨ys, hown, hyl, hc, hg⟩ := hrel
            have Ho := Lib.hid hown
            have HC := Lib.hid hc
            have HG := Lib.hid hg
            clear hown hc hg
            obtain ⟨A2, c2, rfl⟩ := own_slice Ho.out
            go_wp2_with fail
            refine (l1Below_ex _ B k 2 HC.out).mono ?_
            rintro e w4 ⟨t, rfl, ht, c, g⟩
            have HC := Lib.hid c
            have HG := Lib.hid (Kit.grown_trans HG.out g)
            have Ho := Lib.hid (Kit.keptRow Ho.out hBB g)
            clear c g
            have a6 : IntKind.i64.wrap (24 + (t : Int)) = 24 + (t : Int) := Kit.w64 (by omega) (by omega)
            by_cases hlt : (ys.length : Int) < 24 + (t : Int)
            · have elt : decide ((ys.length : Int) < 24 + (t : Int)) = true := by simpa using hlt
              have hsx := HG.out.size
              go_wp2_with (at_builtin; go_loud (refine append_node w4 rfl _ _ 24 rfl w.heap.size 47 i0 Try.underlying24 Hi.out hz0 hz1 hz2 (.slice A2 ys.length c2) ys.length ys rfl Ho.out rfl 1 (1) rfl (by omega) hsx ?_); intro v' w6 hown hgrow)
              have hg6 := Kit.grown_own HG.out (Nat.le_refl _) Ho.out hgrow
              have hc6 := (HC.out.alloc (.cells #[.int .i64 1, .int .i64 (1)] 47)).kept hgrow (fun j hj => by have := (Ho.out.lt j hj).1; omega)
              obtain ⟨A6, c6, rfl⟩ := own_slice hown
              go_roundw
              case rel => exact ⟨ys ++ [(1, 1)], hown, by simp; omega, hc6, hg6⟩
              case measure => simp [vlen]; omega
            · have elt : decide ((ys.length : Int) < 24 + (t : Int)) = false := by simpa using hlt
              go_wp2
              go_ret
              exact ⟨_, _, _, _, rfl, NdAt.of_own Ho.out, own_cap Ho.out, by omega, HC.out, HG.out⟩
        · have e3 : ((v : Int) == 3) = false := beq_eq_false_iff_ne.2 (by omega)
          by_cases h4 : v = 4
          · have e4 : ((v : Int) == 4) = true := by simp [h4]
            have hsx := HG.out.size
            have Ho := Lib.hid (World.ownsRow_lit (base := w.heap.size) (e := 47) (size := 2) w3 #[.int .i64 0, .int .i64 0] 1 hsx (by decide) rfl)
            have HC := Lib.hid (HC.out.alloc (.cells #[.int .i64 0, .int .i64 0] 47))
            have HG := Lib.hid (Kit.grown_trans HG.out (Kit.grown_alloc w3 (.cells #[.int .i64 0, .int .i64 0] 47) (some B)))
            go_wp2
            go_loopw [5] (fun lv wr => ∃ ys : Tr, wr.ownsRow w.heap.size 47 2 lv ys.length (Tr.cells ys) ∧ ys.length ≤ 31 ∧ CurX wr B k ∧ w.grownBy wr (some B)) (fun lv _ => 40 - vlen lv)
            case atStart => exact ⟨[(0, 0)], Ho.out, by first | omega | decide, HC.out, HG.out⟩
            case round =>
              clear Ho HC HG
              obtain ⟨ys, hown, hyl, hc, hg⟩ := hrel
              have Ho := Lib.hid hown
              have HC := Lib.hid hc
              have HG := Lib.hid hg
              clear hown hc hg
              obtain ⟨A2, c2, rfl⟩ := own_slice Ho.out
              go_wp2_with fail
              refine (l1Below_ex _ B k 2 HC.out).mono ?_
              rintro e w4 ⟨t, rfl, ht, c, g⟩
              have HC := Lib.hid c
              have HG := Lib.hid (Kit.grown_trans HG.out g)
              have Ho := Lib.hid (Kit.keptRow Ho.out hBB g)
              clear c g
              have a6 : IntKind.i64.wrap (13 + (t : Int)) = 13 + (t : Int) := Kit.w64 (by omega) (by omega)
              by_cases hlt : (ys.length : Int) < 13 + (t : Int)
              · have elt : decide ((ys.length : Int) < 13 + (t : Int)) = true := by simpa using hlt
                have hsx := HG.out.size
                go_wp2_with (at_builtin; go_loud (refine append_node w4 rfl _ _ 24 rfl w.heap.size 47 i0 Try.underlying24 Hi.out hz0 hz1 hz2 (.slice A2 ys.length c2) ys.length ys rfl Ho.out rfl 0 ((ys.length : Int)) rfl (by omega) hsx ?_); intro v' w6 hown hgrow)
                have hg6 := Kit.grown_own HG.out (Nat.le_refl _) Ho.out hgrow
                have hc6 := (HC.out.alloc (.cells #[.int .i64 0, .int .i64 ((ys.length : Int))] 47)).kept hgrow (fun j hj => by have := (Ho.out.lt j hj).1; omega)
                obtain ⟨A6, c6, rfl⟩ := own_slice hown
                go_roundw
                case rel => exact ⟨ys ++ [(0, (ys.length : Int))], hown, by simp; omega, hc6, hg6⟩
                case measure => simp [vlen]; omega
              · have elt : decide ((ys.length : Int) < 13 + (t : Int)) = false := by simpa using hlt
                go_wp2
                go_ret
                exact ⟨_, _, _, _, rfl, NdAt.of_own Ho.out, own_cap Ho.out, by omega, HC.out, HG.out⟩
          · have e4 : ((v : Int) == 4) = false := beq_eq_false_iff_ne.2 (by omega)
            go_wp2
            go_ret
            exact ⟨_, _, _, _, rfl, NdAt.of_own Ho.out, own_cap Ho.out, by omega, HC.out, HG.out⟩

end Go.Proofs.Ytgkkeejhfofcaaa
