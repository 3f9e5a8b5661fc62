/- Texts of one claim laid into one file, in build order: AnyD, DrawTr, WhereD, DrawTI, Pst, Pst2, KinP. -/
import Derived.Test.YtofpcedpmbecgaaHb2
import Derived.Test.YtofpcedpmbecgaaHb3
/- Contracts (AnyD). -/
namespace Go.Proofs.Ytofpcedpmbecgaa
open Go.RowKit
set_option linter.unusedVariables false

theorem Tr.cells_set_even (xs : Tr) (k : Nat) (a : Int) : (Tr.cells xs).set (k * 2) (.int .i64 a) = Tr.cells (xs.set k (a, Tr.d xs k)) := by
  induction xs generalizing k with
  | nil => simp [Tr.cells]
  | cons x l ih =>
    cases k with
    | zero => simp [Tr.cells, Tr.d]
    | succ k =>
      have := ih k
      simp only [Tr.cells, Tr.d] at this ⊢
      simpa [show (k + 1) * 2 = k * 2 + 1 + 1 by omega] using this
theorem Tr.cells_set_odd' (xs : Tr) (k : Nat) (b : Int) : (Tr.cells xs).set (k * 2 + 1) (.int .i64 b) = Tr.cells (xs.set k (Tr.l xs k, b)) := by
  induction xs generalizing k with
  | nil => simp [Tr.cells]
  | cons x l ih =>
    cases k with
    | zero => simp [Tr.cells, Tr.l]
    | succ k =>
      have := ih k
      simp only [Tr.cells, Tr.l] at this ⊢
      simpa [show (k + 1) * 2 = k * 2 + 1 + 1 by omega] using this
theorem NdIn.tail {w : World} {B n g : Nat} {xs : Tr} (h : NdIn w B (some ⟨g, 0, none⟩) n xs) : NdIn w B (some ⟨g, 2, none⟩) (n - 1) (xs.drop 1) := by
  refine ⟨by have := h.1; simp; omega, fun hm => ⟨_, rfl, ?_⟩, fun ad' e k hk => ?_⟩
  · obtain ⟨ad', e, hb⟩ := h.2.1 (by omega)
    obtain rfl : (⟨g, 0, none⟩ : Addr) = ad' := by injection e
    exact hb
  · obtain rfl : (⟨g, 2, none⟩ : Addr) = ad' := by injection e
    have hc := h.2.2 _ rfl (k + 1) (by omega)
    have hg : (xs.drop 1).getD k (0, 0) = xs.getD (k + 1) (0, 0) := by
      simp [List.getD_eq_getElem?_getD]
    have e1 : (⟨g, 2, none⟩ : Addr) = (⟨g, 0, none⟩ : Addr).add 2 := by simp [Addr.add]
    rw [e1, add_of_add, add_of_add, show 2 + k * 2 = (k + 1) * 2 by omega, show 2 + (k * 2 + 1) = (k + 1) * 2 + 1 by omega]
    simp only [Tr.l, Tr.d] at hc ⊢
    rw [hg]
    exact hc
/-- a slice of nodes, readable, in a block of the call's own (from B0 on) -/
def NdAt (w : World) (B0 : Nat) (A : Option Addr) (n : Nat) (xs : Tr) : Prop := NdIn w w.heap.size A n xs ∧ ∀ ad, A = some ad → B0 ≤ ad.block
theorem NdAt.of_own {w : World} {base n : Nat} {e : TypeId} {A : Option Addr} {c : Nat} {xs : Tr} (h : w.ownsRow base e 2 (.slice A n c) n (Tr.cells xs)) : NdAt w base A n xs := by
  refine ⟨NdIn.of_own h, fun ad he => ?_⟩
  rcases h.2 with ⟨h1, h2⟩ | ⟨g, cap, cur, hv, hb, _⟩
  · injection h1 with h1
    rw [h1] at he
    cases he
  · injection hv with hv
    rw [hv] at he
    injection he with he
    rw [← he]
    exact hb
def vlen : Value → Nat
  | .slice _ n _ => n
  | _ => 0
theorem NdAt.cur {w w' : World} {B B0 n : Nat} {A : Option Addr} {xs : Tr} (h : NdAt w B0 A n xs) (hB : B < B0) (hg : w.grownBy w' (some B)) : NdAt w' B0 A n xs := by
  refine ⟨⟨h.1.1, fun hn => ?_, fun ad e k hk => ?_⟩, h.2⟩
  · obtain ⟨ad, e, hb⟩ := h.1.2.1 hn
    exact ⟨ad, e, Nat.lt_of_lt_of_le hb hg.size⟩
  · obtain ⟨ad', e', hb⟩ := h.1.2.1 (by omega)
    obtain rfl : ad' = ad := by rw [e'] at e; injection e
    have hne := h.2 _ e'
    have := h.1.2.2 _ e k hk
    have q : ∀ p : Addr, p.block = ad'.block → w'.cell? p = w.cell? p := fun p hp => World.cell?_of_block (hg.block p.block (by omega) (by intro e; injection e with e; omega))
    rw [q _ (block_of_add _ _), q _ (block_of_add _ _)]
    exact this
def AnyD (w : World) (B : Nat) (k : Code) (e : Ending) (w' : World) : Prop :=
  ∃ (xs : Tr) (A : Option Addr) (n cp : Nat), e = .returned (.slice A n cp) ∧ NdAt w' w.heap.size A n xs ∧ n ≤ cp ∧ n ≤ 31 ∧ CurX w' B k ∧ w.grownBy w' (some B)
set_option maxHeartbeats 3200000 in
set_option maxRecDepth 100000 in
theorem l3Any_ex (w : World) (B : Nat) (k : Code) (most : Int) (hm : most ≤ 30) (c : CurX w B k) :
    Calls Try.prog 61 #[.pointer (some ⟨B, 0, none⟩), .int .i64 most] w (AnyD w B k) := by
  have HC := Lib.hid c
  have hBB := c.lt
  have HG := Lib.hid (Kit.grown_refl w (some B))
  clear c
  obtain ⟨i0, hi, hz0, hz1, hz2⟩ := info_parts info_ndD
  have Hi := Lib.hid hi
  clear hi
  go_enter Try.func61, Try.ntmps61
  go_wp2_with fail
  refine (l3Tree_ex w B k most hm HC.out).mono ?_
  rintro e w1 ⟨xs, A, cp, rfl, ho, ⟨hl1, hl2⟩, hbd, c, g⟩
  have HC := Lib.hid c
  have HG := Lib.hid (Kit.grown_trans HG.out g)
  have Ho := Lib.hid ho
  have Hbd := Lib.hid hbd
  obtain ⟨gk, rfl, hgk, _⟩ := own_form ho (by omega)
  clear ho c g hbd
  go_wp2_with fail
  refine (l1Below_ex _ B k (xs.length : Int) HC.out).mono ?_
  rintro e w2 ⟨q, rfl, hq, c, g⟩
  have HC := Lib.hid c
  have HG := Lib.hid (Kit.grown_trans HG.out g)
  have Ho := Lib.hid (Kit.keptRow Ho.out hBB g)
  clear c g
  have hq' : q < xs.length := by omega
  go_wp2_with fail
  refine (l1Below_ex _ B k 18 HC.out).mono ?_
  rintro e w3 ⟨v, rfl, hv, c, g⟩
  have HC := Lib.hid c
  have HG := Lib.hid (Kit.grown_trans HG.out g)
  have Ho := Lib.hid (Kit.keptRow Ho.out hBB g)
  clear c g
  have q0 : (0 : Int) ≤ (q : Int) := by omega
  have q1 : (q : Int) < (xs.length : Int) := by omega
  by_cases h0 : v = 0
  · have e0 : ((v : Int) == 0) = true := by simp [h0]
    go_wp2_with fail
    refine (l2Any_ex _ B k HC.out).mono ?_
    rintro e w4 ⟨x, rfl, c, g⟩
    have HC := Lib.hid c
    have HG := Lib.hid (Kit.grown_trans HG.out g)
    have Ho := Lib.hid (Kit.keptRow Ho.out hBB g)
    clear c g
    have c0 := own_even Ho.out (k := q) hq'
    have f0 := Ho.out.frozenAt (q * 2)
    go_wp2
    go_ret
    have ho := (Ho.out.stored (q * 2) (.int .i64 x)).1
    rw [Tr.cells_set_even] at ho
    exact ⟨_, _, _, _, rfl, NdAt.of_own ho, own_cap Ho.out, by omega, HC.out.kept (Ho.out.stored (q * 2) (.int .i64 x)).2 (fun j hj => by have := (Ho.out.lt j hj).1; omega), HG.out.andThen (Ho.out.stored (q * 2) (.int .i64 x)).2 (fun j hj => .inl (by have := (Ho.out.lt j hj).1; omega))⟩
  · have e0 : ((v : Int) == 0) = false := beq_eq_false_iff_ne.2 (by omega)
    by_cases h1 : v = 1
    · have e1 : ((v : Int) == 1) = true := by simp [h1]
      have c0 := own_odd Ho.out (k := q) hq'
      have hdb := Hbd.out q hq'
      obtain ⟨d, hd⟩ : ∃ d, d = Tr.d xs q := ⟨_, rfl⟩
      rw [← hd] at c0 hdb
      clear hd
      have a5 : IntKind.i64.wrap (d + 1) = d + 1 := Kit.w64 (by omega) (by omega)
      go_wp2_with fail
      refine (l1PickInt_lit w3 B k HC.out _ _ [-1, 0, 1, 13, d + 1] 5 rfl rfl (by decide) (by decide)).mono ?_
      rintro e w4 ⟨x, rfl, c, g⟩
      have HC := Lib.hid c
      have HG := Lib.hid (Kit.grown_trans HG.out g)
      have Ho := Lib.hid (Kit.keptRow Ho.out hBB g)
      clear c g c0
      have c0 := own_odd Ho.out (k := q) hq'
      have f0 := Ho.out.frozenAt (q * 2 + 1)
      go_wp2
      go_ret
      have ho := (Ho.out.stored (q * 2 + 1) (.int .i64 x)).1
      rw [Tr.cells_set_odd'] at ho
      exact ⟨_, _, _, _, rfl, NdAt.of_own ho, own_cap Ho.out, by omega, HC.out.kept (Ho.out.stored (q * 2 + 1) (.int .i64 x)).2 (fun j hj => by have := (Ho.out.lt j hj).1; omega), HG.out.andThen (Ho.out.stored (q * 2 + 1) (.int .i64 x)).2 (fun j hj => .inl (by have := (Ho.out.lt j hj).1; omega))⟩
    · have e1 : ((v : Int) == 1) = false := beq_eq_false_iff_ne.2 (by omega)
      by_cases h2 : v = 2
      · have e2 : ((v : Int) == 2) = true := by simp [h2]
        have hcap := own_cap Ho.out
        have b1 : (1 : Int) ≤ (xs.length : Int) := by omega
        have b2 : (xs.length : Int) ≤ (cp : Int) := by omega
        by_cases hcp : cp = 1
        · subst hcp
          go_wp2
          go_ret
          exact ⟨[], _, _, _, rfl, ⟨⟨by first | rfl | (simp; omega), fun h => absurd h (by omega), fun ad e k hk => absurd hk (by omega)⟩, fun ad e => by injection e with e; rw [← e]; exact hgk⟩, by omega, by omega, HC.out, HG.out⟩
        · go_wp2
          go_ret
          exact ⟨_, _, _, _, rfl, ⟨NdIn.tail (NdIn.of_own Ho.out), fun ad e => by injection e with e; rw [← e]; exact hgk⟩, by omega, by omega, HC.out, HG.out⟩
      · have e2 : ((v : Int) == 2) = false := beq_eq_false_iff_ne.2 (by omega)
        by_cases h3 : v = 3
        · have e3 : ((v : Int) == 3) = true := by simp [h3]
          go_wp2
          go_loopw [5] (fun lv wr => ∃ ys : Tr, wr.ownsRow w.heap.size 40 2 lv ys.length (Tr.cells ys) ∧ ys.length ≤ 31 ∧ CurX wr B k ∧ w.grownBy wr (some B)) (fun lv _ => 40 - vlen lv)
          case atStart => exact ⟨xs, Ho.out, by first | omega | decide, HC.out, HG.out⟩
          case round =>
            clear Ho HC HG
            obtain ⟨ys, hown, hyl, hc, hg⟩ := hrel
            have Ho := Lib.hid hown
            have HC := Lib.hid hc
            have HG := Lib.hid hg
            clear hown hc hg
            obtain ⟨A2, c2, rfl⟩ := own_slice Ho.out
            go_wp2_with fail
            refine (l1Below_ex _ B k 2 HC.out).mono ?_
            rintro e w4 ⟨t, rfl, ht, c, g⟩
            have HC := Lib.hid c
            have HG := Lib.hid (Kit.grown_trans HG.out g)
            have Ho := Lib.hid (Kit.keptRow Ho.out hBB g)
            clear c g
            have a6 : IntKind.i64.wrap (24 + (t : Int)) = 24 + (t : Int) := Kit.w64 (by omega) (by omega)
            by_cases hlt : (ys.length : Int) < 24 + (t : Int)
            · have elt : decide ((ys.length : Int) < 24 + (t : Int)) = true := by simpa using hlt
              have hsx := HG.out.size
              go_wp2_with (at_builtin; go_loud (refine append_node w4 rfl _ _ 24 rfl w.heap.size 40 i0 Try.underlying24 Hi.out hz0 hz1 hz2 (.slice A2 ys.length c2) ys.length ys rfl Ho.out rfl 1 (1) rfl (by omega) hsx ?_); intro v' w6 hown hgrow)
              have hg6 := Kit.grown_own HG.out (Nat.le_refl _) Ho.out hgrow
              have hc6 := (HC.out.alloc (.cells #[.int .i64 1, .int .i64 (1)] 40)).kept hgrow (fun j hj => by have := (Ho.out.lt j hj).1; omega)
              obtain ⟨A6, c6, rfl⟩ := own_slice hown
              go_roundw
              case rel => exact ⟨ys ++ [(1, 1)], hown, by simp; omega, hc6, hg6⟩
              case measure => simp [vlen]; omega
            · have elt : decide ((ys.length : Int) < 24 + (t : Int)) = false := by simpa using hlt
              go_wp2
              go_ret
              exact ⟨_, _, _, _, rfl, NdAt.of_own Ho.out, own_cap Ho.out, by omega, HC.out, HG.out⟩
        · have e3 : ((v : Int) == 3) = false := beq_eq_false_iff_ne.2 (by omega)
          by_cases h4 : v = 4
          · have e4 : ((v : Int) == 4) = true := by simp [h4]
            have hsx := HG.out.size
            have Ho := Lib.hid (World.ownsRow_lit (base := w.heap.size) (e := 40) (size := 2) w3 #[.int .i64 0, .int .i64 0] 1 hsx (by decide) rfl)
            have HC := Lib.hid (HC.out.alloc (.cells #[.int .i64 0, .int .i64 0] 40))
            have HG := Lib.hid (Kit.grown_trans HG.out (Kit.grown_alloc w3 (.cells #[.int .i64 0, .int .i64 0] 40) (some B)))
            go_wp2
            go_loopw [5] (fun lv wr => ∃ ys : Tr, wr.ownsRow w.heap.size 40 2 lv ys.length (Tr.cells ys) ∧ ys.length ≤ 31 ∧ CurX wr B k ∧ w.grownBy wr (some B)) (fun lv _ => 40 - vlen lv)
            case atStart => exact ⟨[(0, 0)], Ho.out, by first | omega | decide, HC.out, HG.out⟩
            case round =>
              clear Ho HC HG
              obtain ⟨ys, hown, hyl, hc, hg⟩ := hrel
              have Ho := Lib.hid hown
              have HC := Lib.hid hc
              have HG := Lib.hid hg
              clear hown hc hg
              obtain ⟨A2, c2, rfl⟩ := own_slice Ho.out
              go_wp2_with fail
              refine (l1Below_ex _ B k 2 HC.out).mono ?_
              rintro e w4 ⟨t, rfl, ht, c, g⟩
              have HC := Lib.hid c
              have HG := Lib.hid (Kit.grown_trans HG.out g)
              have Ho := Lib.hid (Kit.keptRow Ho.out hBB g)
              clear c g
              have a6 : IntKind.i64.wrap (13 + (t : Int)) = 13 + (t : Int) := Kit.w64 (by omega) (by omega)
              by_cases hlt : (ys.length : Int) < 13 + (t : Int)
              · have elt : decide ((ys.length : Int) < 13 + (t : Int)) = true := by simpa using hlt
                have hsx := HG.out.size
                go_wp2_with (at_builtin; go_loud (refine append_node w4 rfl _ _ 24 rfl w.heap.size 40 i0 Try.underlying24 Hi.out hz0 hz1 hz2 (.slice A2 ys.length c2) ys.length ys rfl Ho.out rfl 0 ((ys.length : Int)) rfl (by omega) hsx ?_); intro v' w6 hown hgrow)
                have hg6 := Kit.grown_own HG.out (Nat.le_refl _) Ho.out hgrow
                have hc6 := (HC.out.alloc (.cells #[.int .i64 0, .int .i64 ((ys.length : Int))] 40)).kept hgrow (fun j hj => by have := (Ho.out.lt j hj).1; omega)
                obtain ⟨A6, c6, rfl⟩ := own_slice hown
                go_roundw
                case rel => exact ⟨ys ++ [(0, (ys.length : Int))], hown, by simp; omega, hc6, hg6⟩
                case measure => simp [vlen]; omega
              · have elt : decide ((ys.length : Int) < 13 + (t : Int)) = false := by simpa using hlt
                go_wp2
                go_ret
                exact ⟨_, _, _, _, rfl, NdAt.of_own Ho.out, own_cap Ho.out, by omega, HC.out, HG.out⟩
          · have e4 : ((v : Int) == 4) = false := beq_eq_false_iff_ne.2 (by omega)
            go_wp2
            go_ret
            exact ⟨_, _, _, _, rfl, NdAt.of_own Ho.out, own_cap Ho.out, by omega, HC.out, HG.out⟩

end Go.Proofs.Ytofpcedpmbecgaa

/- Contracts (DrawTr). -/
namespace Go.Proofs.Ytofpcedpmbecgaa
open Go.RowKit
set_option linter.unusedVariables false

/-- a tree that a draw has laid: it reads as xs -/
def TreeAt (w w' : World) (xs : Tr) (A : Option Addr) (n cp : Nat) : Prop := NdIn w' w'.heap.size A n xs ∧ n ≤ cp ∧ n ≤ 31 ∧ Below w.heap.size w w'
def DrawI (w : World) (e : Ending) (w' : World) : Prop := ∃ (xs : Tr) (A : Option Addr) (n cp : Nat) (i : Int), e = .returned (.tuple #[.slice A n cp, .int .i64 i]) ∧ TreeAt w w' xs A n cp
theorem TreeAt.of_grown {w w1 w2 : World} {xs : Tr} {A : Option Addr} {n cp : Nat} (h : NdAt w2 w1.heap.size A n xs) (hc : n ≤ cp) (h31 : n ≤ 31) (g1 : w.grownBy w1 none) (g2 : w1.grownBy w2 (some w.heap.size)) : TreeAt w w2 xs A n cp :=
  ⟨h.1, hc, h31, ((Below.refl w.heap.size w).grown g1 (Nat.le_refl _) (fun _ h => by cases h)).trans (Kit.below_of_grown g2 (fun k hk => by injection hk with hk; omega) g1.size)⟩
end Go.Proofs.Ytofpcedpmbecgaa

/- Contracts (WhereD). -/
namespace Go.Proofs.Ytofpcedpmbecgaa
open Go.RowKit
set_option linter.unusedVariables false

def WhereD (w : World) (B : Nat) (k : Code) (e : Ending) (w' : World) : Prop :=
  ∃ (xs : Tr) (A : Option Addr) (n cp : Nat) (i : Int), e = .returned (.tuple #[.slice A n cp, .int .i64 i]) ∧ NdAt w' w.heap.size A n xs ∧ n ≤ cp ∧ n ≤ 31 ∧ CurX w' B k ∧ w.grownBy w' (some B)
set_option maxHeartbeats 1600000 in
set_option maxRecDepth 100000 in
theorem l3Where_ex (w : World) (B : Nat) (k : Code) (c : CurX w B k) :
    Calls Try.prog 52 #[.pointer (some ⟨B, 0, none⟩)] w (WhereD w B k) := by
  have HC := Lib.hid c
  have hBB := c.lt
  have HG := Lib.hid (Kit.grown_refl w (some B))
  clear c
  go_enter Try.func52, Try.ntmps52
  go_wp2_with fail
  refine (l3Any_ex w B k 12 (by decide) HC.out).mono ?_
  rintro e w1 ⟨xs, A, n, cp, rfl, hn, hcp, hn31, c, g⟩
  have HC := Lib.hid c
  have HG := Lib.hid (Kit.grown_trans HG.out g)
  have HN := Lib.hid hn
  clear c g hn
  go_wp2_with fail
  refine (l1Once_ex _ B k 10 HC.out).mono ?_
  rintro e w2 ⟨b, rfl, c, g⟩
  have HC := Lib.hid c
  have HG := Lib.hid (Kit.grown_trans HG.out g)
  have HN := Lib.hid (HN.out.cur hBB g)
  clear c g
  cases b with
  | true =>
    go_wp2_with fail
    refine (l1PickInt_lit w2 B k HC.out _ _ [-1, (n : Int)] 2 rfl rfl (by decide) (by decide)).mono ?_
    rintro e w3 ⟨x, rfl, c, g⟩
    have HG := Lib.hid (Kit.grown_trans HG.out g)
    have HN := Lib.hid (HN.out.cur hBB g)
    have HC := Lib.hid c
    clear c g
    go_wp2
    go_ret2
    exact ⟨xs, A, n, cp, x, rfl, HN.out, hcp, hn31, HC.out, HG.out⟩
  | false =>
    by_cases hn1 : (1 : Int) < (n : Int)
    · go_wp2_with fail
      refine (l1Below_ex _ B k _ HC.out).mono ?_
      rintro e w3 ⟨v, rfl, hv, c, g⟩
      have HC := Lib.hid c
      have HG := Lib.hid (Kit.grown_trans HG.out g)
      have HN := Lib.hid (HN.out.cur hBB g)
      clear c g
      go_wp2
      go_ret2
      exact ⟨xs, A, n, cp, v, rfl, HN.out, hcp, hn31, HC.out, HG.out⟩
    · go_wp2_with fail
      refine (l1Below_ex _ B k _ HC.out).mono ?_
      rintro e w3 ⟨v, rfl, hv, c, g⟩
      have HC := Lib.hid c
      have HG := Lib.hid (Kit.grown_trans HG.out g)
      have HN := Lib.hid (HN.out.cur hBB g)
      clear c g
      go_wp2
      go_ret2
      exact ⟨xs, A, n, cp, v, rfl, HN.out, hcp, hn31, HC.out, HG.out⟩

end Go.Proofs.Ytofpcedpmbecgaa

/- Contracts (DrawTI). -/
namespace Go.Proofs.Ytofpcedpmbecgaa
open Go.RowKit
set_option linter.unusedVariables false

set_option maxHeartbeats 400000 in
theorem drawKidsOf_ex (w : World) (k : Code) (hcode : CodeIn w w.heap.size k.a k.cs) (hlen : k.cs.length ≤ 1048576) :
    Calls Try.prog 12 #[.slice k.a k.cs.length k.cap] w (DrawI w) := by
  have HC := Lib.hid hcode
  clear hcode
  go_enter Try.func12, Try.ntmps12
  go_wp2_with fail
  refine (l1New_ex _ k HC.out hlen).mono ?_
  rintro e w1 ⟨rfl, c, g1⟩
  have HX := Lib.hid c
  have HG := Lib.hid g1
  clear c g1
  go_wp2_with fail
  refine (l3Where_ex _ _ k HX.out).mono ?_
  rintro e w2 ⟨xs, A, n, cp, i, rfl, hn, hcp, hn31, c, g2⟩
  have HT := Lib.hid (TreeAt.of_grown hn hcp hn31 HG.out g2)
  clear c g2 hn
  go_wp2
  go_ret2
  exact ⟨xs, A, n, cp, i, rfl, HT.out⟩

end Go.Proofs.Ytofpcedpmbecgaa

/- Contracts (Pst). -/
namespace Go.Proofs.Ytofpcedpmbecgaa
open Go.RowKit
set_option linter.unusedVariables false

/-! Postorder of a right tree, as plain mathematics. dn: the depth as a number; rk: a node's place in postorder, endN - 1 - dn; the place of its first leaf is i - dn i. -/
def Tr.dn (xs : Tr) (i : Nat) : Nat := (Tr.d xs i).toNat
section
variable {xs : Tr} (h : Tr.ok xs = true)
include h
theorem Tr.dn_eq {i : Nat} (hi : i < xs.length) : (Tr.dn xs i : Int) = Tr.d xs i := by
  have := (Tr.ok_at h hi).2.1
  unfold Tr.dn
  omega
theorem Tr.dn_succ {i : Nat} (hi : i + 1 < xs.length) : 1 ≤ Tr.dn xs (i + 1) ∧ Tr.dn xs (i + 1) ≤ Tr.dn xs i + 1 := by
  have h1 := Tr.ok_at h hi
  have h2 := Tr.dn_eq h hi
  have h3 := Tr.dn_eq h (i := i) (by omega)
  have h4 := h1.2.2.2
  rw [show i + 1 - 1 = i by omega] at h4
  omega
/-- endN, with depths as numbers -/
theorem Tr.endN_dn {i : Nat} (hi : i < xs.length) : i < Tr.endN xs i ∧ Tr.endN xs i ≤ xs.length ∧ (∀ j, i < j → j < Tr.endN xs i → Tr.dn xs i < Tr.dn xs j) ∧ (Tr.endN xs i = xs.length ∨ (Tr.endN xs i < xs.length ∧ Tr.dn xs (Tr.endN xs i) ≤ Tr.dn xs i)) := by
  obtain ⟨h1, h2, h3, h4⟩ := Tr.endN_spec xs i hi
  refine ⟨h1, h2, fun j a b => ?_, ?_⟩
  · have := h3 j a b
    have := Tr.dn_eq h hi
    have := Tr.dn_eq h (i := j) (by omega)
    omega
  · rcases h4 with h4 | h4
    · exact .inl h4
    · by_cases e : Tr.endN xs i = xs.length
      · exact .inl e
      · have := Tr.dn_eq h hi
        have := Tr.dn_eq h (i := Tr.endN xs i) (by omega)
        exact .inr ⟨by omega, by omega⟩
theorem Tr.endN_in {i j : Nat} (hi : i < xs.length) (hij : i < j) (hj : j < Tr.endN xs i) : Tr.endN xs j ≤ Tr.endN xs i := by
  obtain ⟨a1, a2, a3, a4⟩ := Tr.endN_dn h hi
  obtain ⟨b1, b2, b3, b4⟩ := Tr.endN_dn h (i := j) (by omega)
  by_cases e : Tr.endN xs j ≤ Tr.endN xs i
  · exact e
  · have c1 := a3 j hij hj
    have c2 := b3 (Tr.endN xs i) hj (by omega)
    omega
end
section
variable {xs : Tr} (h : Tr.ok xs = true)
include h
end
/-- the subtree of i in postorder, by kids; the fuel is at least the number of nodes under i -/
def Tr.postF (xs : Tr) : Nat → Nat → List Nat
  | 0, i => [i]
  | f + 1, i => (Tr.kidsTo xs i (Tr.endN xs i)).flatMap (Tr.postF xs f) ++ [i]
/-- up to place k of the children's row of i, a kid stands next (or none is left) -/
def Tr.bound (xs : Tr) (i k : Nat) : Prop := i < k ∧ k ≤ Tr.endN xs i ∧ (k < Tr.endN xs i → Tr.dn xs k = Tr.dn xs i + 1)
section
variable {xs : Tr} (h : Tr.ok xs = true)
include h
theorem Tr.bound_start {i : Nat} (hi : i < xs.length) : Tr.bound xs i (i + 1) := by
  have a := Tr.endN_dn h hi
  refine ⟨by omega, by omega, fun hk => ?_⟩
  have := a.2.2.1 (i + 1) (by omega) hk
  have := Tr.dn_succ h (i := i) (by omega)
  omega
theorem Tr.bound_next {i k : Nat} (hi : i < xs.length) (hb : Tr.bound xs i k) (hk : k < Tr.endN xs i) : Tr.bound xs i (Tr.endN xs k) ∧ k < Tr.endN xs k := by
  have a := Tr.endN_dn h hi
  have b := Tr.endN_dn h (i := k) (by omega)
  have c := Tr.endN_in h hi hb.1 hk
  have d := hb.2.2 hk
  have b1 := b.1
  have b4 := b.2.2.2
  have hb1 := hb.1
  refine ⟨⟨by omega, c, fun e => ?_⟩, b.1⟩
  have := a.2.2.1 (Tr.endN xs k) (by omega) e
  omega
theorem Tr.kids_in {i k m : Nat} (hi : i < xs.length) (hb : Tr.bound xs i k) (hk : k < Tr.endN xs i) (hm : k < m) (hm2 : m ≤ Tr.endN xs k) : Tr.kidsTo xs i m = Tr.kidsTo xs i k ++ [k] := by
  have a := Tr.endN_dn h hi
  have b := Tr.endN_dn h (i := k) (by omega)
  induction m with
  | zero => omega
  | succ m ih =>
    have e1 := Tr.dn_eq h hi
    rw [Tr.kidsTo_succ xs i m (by have := hb.1; omega)]
    by_cases e : m = k
    · subst e
      have e2 := Tr.dn_eq h (i := m) (by omega)
      have := hb.2.2 hk
      rw [if_pos (by omega)]
    · have e2 := Tr.dn_eq h (i := m) (by omega)
      have e3 := b.2.2.1 m (by omega) (by omega)
      have := hb.2.2 hk
      rw [if_neg (by omega)]
      exact ih (by omega) (by omega)
end
/-- all nodes in postorder -/
def Tr.post (xs : Tr) : List Nat := if Tr.ok xs then Tr.postF xs xs.length 0 else []
section
variable {xs : Tr} (h : Tr.ok xs = true)
include h
end

end Go.Proofs.Ytofpcedpmbecgaa

/- Contracts (Pst2). -/
namespace Go.Proofs.Ytofpcedpmbecgaa
open Go.RowKit
set_option linter.unusedVariables false

section
variable {xs : Tr} (h : Tr.ok xs = true)
include h
end
/-- is j under i; does j come behind i, and all under it -/
def Tr.under (xs : Tr) (i j : Int) : Bool := Tr.has xs i && Tr.has xs j && decide (i < j) && decide (j < Tr.endOf xs i)
/-- the first place of i in zs, counted from k -/
def Zs.find : List Int → Int → Nat → Int
  | [], _, _ => -1
  | z :: zs, i, k => if z = i then k else Zs.find zs i (k + 1)
theorem Zs.find_step (zs : List Int) (i : Int) (k : Nat) (hk : k < zs.length) : Zs.find (zs.drop k) i k = if zs.getD k 0 = i then (k : Int) else Zs.find (zs.drop (k + 1)) i (k + 1) := by
  rw [List.drop_eq_getElem_cons hk]
  simp [Zs.find, List.getD_eq_getElem?_getD, hk]
def Tr.kidRank (xs : Tr) (i : Int) : Int := if Tr.parentOf xs i < 0 then -1 else Zs.find ((Tr.kidsOf xs (Tr.parentOf xs i)).map fun (m : Nat) => (m : Int)) i 0

end Go.Proofs.Ytofpcedpmbecgaa

/- Contracts (KinP). -/
namespace Go.Proofs.Ytofpcedpmbecgaa
open Go.RowKit
set_option linter.unusedVariables false

/-! mathematics of the laws on kin -/
theorem Tr.has_nat {xs : Tr} {i : Nat} (hok : Tr.ok xs = true) (hi : i < xs.length) : Tr.has xs (i : Int) = true := Tr.has_iff.2 ⟨hok, Int.natCast_nonneg i, Int.ofNat_lt.2 hi⟩
def Bs.count (bs : List Bool) (k : Nat) : Nat := (bs.take k).countP id
theorem Tr.back_is {xs : Tr} {dep : Int} {p : Nat} (hp : Tr.d xs p < dep) : ∀ j, p < j → (∀ m, p < m → m < j → dep ≤ Tr.d xs m) → Tr.back xs dep j = p := by
  intro j
  induction j with
  | zero => intro h _; omega
  | succ j ih =>
    intro h hall
    unfold Tr.back
    by_cases e : j = p
    · subst e; rw [if_pos hp]
    · have := hall j (by omega) (by omega)
      rw [if_neg (by omega)]
      exact ih (by omega) (fun m h1 h2 => hall m h1 (by omega))
section
variable {xs : Tr} (hok : Tr.ok xs = true)
include hok
end

end Go.Proofs.Ytofpcedpmbecgaa
