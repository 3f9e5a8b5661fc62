/- Texts of one claim laid into one file, in build order: Krl, AllS, RelS, TblI, CostOkI, SidO, Mem9, New9, Match9, BmD, Bm2, Bm3, Mc. -/
import Derived.Test.YtnfjdlocmdgefaaEl1
import Derived.Test.YtnfjdlocmdgefaaEl2
import Derived.Test.YtnfjdlocmdgefaaEl3
import Derived.BigQuiet
import Derived.Deep.CutRange
import Derived.Deep.QuietTactic
import Derived.Deep.RegionHeld3
import Derived.Laws.ResultCell
import Derived.Maps.AppendAt
import Derived.Outline
import Derived.StillTailTactics
import Derived.Test.YtnfjdlocmdgefaaRows
/- The last pair of key roots. -/
namespace Go.Proofs.Ytnfjdlocmdgefaa
open Go.RowKit
set_option linter.unusedVariables false

theorem Tr.kr_end {xs : Tr} (h : Tr.ok xs = true) {a : Nat} (ha : a + 1 = (Tr.krs xs).length) : Tr.kr xs a = xs.length - 1 := by
  obtain ⟨r, hr⟩ := Tr.krs_last h
  unfold Tr.kr
  rw [hr] at ha ⊢
  rw [List.length_append, List.length_singleton] at ha
  rw [List.getD_eq_getElem?_getD, List.getElem?_append_right (by omega), show a - r.length = 0 by omega]
  rfl
/-- the forests behind the last pair of key roots -/
theorem fill_last {xs ys : Tr} {k : Co} {kk ll y : Nat} {F : Nat → Nat → Int} {T0 T : List Int} (hx : Tr.ok xs = true) (hy : Tr.ok ys = true) (hk : kk + 1 = (Tr.krs xs).length) (hl : ll + 1 = (Tr.krs ys).length)
    (h : Fill xs ys k (Tr.kr xs kk) (Tr.kr ys ll) (Tr.kr xs kk + 1) y F T0 T) : ∀ a b, a ≤ xs.length → b ≤ ys.length → F a b = RR xs ys k 0 a 0 b := by
  intro a b ha hb
  have n1 := (Tr.len24 hx).1
  have n2 := (Tr.len24 hy).1
  have e1 := Tr.kr_end hx hk
  have e2 := Tr.kr_end hy hl
  have f := h.f a b
  rw [e1, e2, Tr.la_last hx, Tr.la_last hy] at f
  exact f (Nat.zero_le _) (by omega) (Nat.zero_le _) (by omega) (.inl (by omega))

end Go.Proofs.Ytnfjdlocmdgefaa

/- Contracts (AllS). -/
namespace Go.Proofs.Ytnfjdlocmdgefaa
open Go.RowKit
set_option linter.unusedVariables false

theorem RowOff.inn {w : World} {B gt n : Nat} {ad : Addr} {zs : List Int} (h : IntIn w B (some ad) n zs) (hn : 0 < n) (hB : B ≤ gt) (hs : B ≤ w.heap.size) : RowOff w gt gt ad n zs := by
  obtain ⟨a, e, hl⟩ := h.2.1 hn
  injection e with e
  subst e
  exact ⟨h.1, by omega, by omega, by omega, fun k hk => h.here hk⟩
/-- what l8All holds ahead of its four rows -/
structure AlG (A A' : Option Addr) (n n' nm : Nat) (xs ys : Tr) (K0 K1 K2 : Option Addr) (c0 c1 c2 : Nat) (k : Co) (T : List Int) (w wq : World) : Prop where
  a : NdIn wq w.heap.size A n xs
  b : NdIn wq w.heap.size A' n' ys
  k : CoIn wq w.heap.size K0 K1 K2 6 6 36 k
  bl : Below w.heap.size w wq
  q : Box3 wq w.heap.size (.slice K0 6 c0) (.slice K1 6 c1) (.slice K2 36 c2)
  t : wq.ownsRow w.heap.size 3 1 (.slice (some ⟨w.heap.size + 1, 0, none⟩) nm nm) nm (ints T)
  lt : w.heap.size + 2 ≤ wq.heap.size
section
variable {A A' : Option Addr} {n n' nm : Nat} {xs ys : Tr} {K0 K1 K2 : Option Addr} {c0 c1 c2 : Nat} {k : Co} {T : List Int} {w wx wq : World}
theorem AlG.keep (h : AlG A A' n n' nm xs ys K0 K1 K2 c0 c1 c2 k T w wx) (hb : Below wx.heap.size wx wq) : AlG A A' n n' nm xs ys K0 K1 K2 c0 c1 c2 k T w wq := by
  have hl := h.lt
  have hb' := hb.mono (B' := w.heap.size) (by omega)
  exact ⟨h.a.below hb', h.b.below hb', h.k.below hb', h.bl.trans hb', h.q.below hb (by omega), own_below h.t hb, Nat.le_trans hl hb.size⟩
theorem AlG.alloc (h : AlG A A' n n' nm xs ys K0 K1 K2 c0 c1 c2 k T w wx) (o : Obj) : AlG A A' n n' nm xs ys K0 K1 K2 c0 c1 c2 k T w (wx.alloc o) := h.keep ((Below.refl _ _).alloc (Nat.le_refl _) _)
theorem AlG.drew (h : AlG A A' n n' nm xs ys K0 K1 K2 c0 c1 c2 k T w wx) : AlG A A' n n' nm xs ys K0 K1 K2 c0 c1 c2 k T w wx.drew := h.keep (Drawn.refl _).drew.toBelow
theorem AlG.set (h : AlG A A' n n' nm xs ys K0 K1 K2 c0 c1 c2 k T w wx) {g : Nat} (hg : w.heap.size + 2 ≤ g) (o : Nat) (v : Value) : AlG A A' n n' nm xs ys K0 K1 K2 c0 c1 c2 k T w (wx.setCell ⟨g, o, none⟩ v) := by
  have hb : Below (w.heap.size + 2) wx (wx.setCell ⟨g, o, none⟩ v) := (Below.refl _ _).setCell hg _
  have hb' := hb.mono (B' := w.heap.size) (by omega)
  exact ⟨h.a.below hb', h.b.below hb', h.k.below hb', h.bl.trans hb', h.q.below hb (by omega), h.t.kept (Kit.grown_set _ _ _ _) (.inr fun e => absurd (show w.heap.size + 1 = g by injection e) (by omega)), by simp; exact h.lt⟩
theorem AlG.r0 {k0 k1 k2 : Addr} (h : AlG A A' n n' nm xs ys (some k0) (some k1) (some k2) c0 c1 c2 k T w wx) : RowOff wx (w.heap.size + 1) (w.heap.size + 1) k0 6 k.d := RowOff.inn h.k.1 (by omega) (by omega) h.bl.size
theorem AlG.r1 {k0 k1 k2 : Addr} (h : AlG A A' n n' nm xs ys (some k0) (some k1) (some k2) c0 c1 c2 k T w wx) : RowOff wx (w.heap.size + 1) (w.heap.size + 1) k1 6 k.i := RowOff.inn h.k.2.1 (by omega) (by omega) h.bl.size
theorem AlG.r2 {k0 k1 k2 : Addr} (h : AlG A A' n n' nm xs ys (some k0) (some k1) (some k2) c0 c1 c2 k T w wx) : RowOff wx (w.heap.size + 1) (w.heap.size + 1) k2 36 k.r := RowOff.inn h.k.2.2 (by omega) (by omega) h.bl.size
theorem AlG.step {T' : List Int} (h : AlG A A' n n' nm xs ys K0 K1 K2 c0 c1 c2 k T w wx) (hc : ∀ p : Addr, p.block < wx.heap.size → p.block ≠ w.heap.size + 1 → wq.cell? p = wx.cell? p) (hb : Below w.heap.size wx wq) (ht : wq.ownsRow w.heap.size 3 1 (.slice (some ⟨w.heap.size + 1, 0, none⟩) nm nm) nm (ints T')) : AlG A A' n n' nm xs ys K0 K1 K2 c0 c1 c2 k T' w wq := by
  have hl := h.lt
  have hq : ∀ i, wq.cell? ⟨w.heap.size, i, none⟩ = wx.cell? ⟨w.heap.size, i, none⟩ := fun i => hc _ (by show w.heap.size < _; omega) (by show w.heap.size ≠ _; omega)
  exact ⟨h.a.below hb, h.b.below hb, h.k.below hb, h.bl.trans hb, ⟨(hq 0).trans h.q.1, (hq 1).trans h.q.2.1, (hq 2).trans h.q.2.2⟩, ht, Nat.le_trans hl hb.size⟩
end
/-- t, its four rows, and what stood ahead -/
structure AlR (A A' : Option Addr) (n n' nm : Nat) (xs ys : Tr) (k0 k1 k2 : Addr) (c0 c1 c2 : Nat) (k : Co) (T : List Int) (g ax ay la lb cx cy dx dy : Nat) (w wq : World) : Prop where
  al : AlG A A' n n' nm xs ys (some k0) (some k1) (some k2) c0 c1 c2 k T w wq
  gl : w.heap.size + 2 ≤ g
  gs : g < wq.heap.size
  t0 : wq.cell? ⟨g, 0, none⟩ = some (.slice (some ⟨ax, 0, none⟩) n cx)
  t1 : wq.cell? ⟨g, 1, none⟩ = some (.slice (some ⟨ay, 0, none⟩) n' cy)
  t2 : wq.cell? ⟨g, 2, none⟩ = some (.slice (some ⟨la, 0, none⟩) n dx)
  t3 : wq.cell? ⟨g, 3, none⟩ = some (.slice (some ⟨lb, 0, none⟩) n' dy)
  t4 : wq.cell? ⟨g, 4, none⟩ = some (.slice (some k0) 6 c0)
  t5 : wq.cell? ⟨g, 5, none⟩ = some (.slice (some k1) 6 c1)
  t6 : wq.cell? ⟨g, 6, none⟩ = some (.slice (some k2) 36 c2)
  rx : RowOff wq (w.heap.size + 1) (w.heap.size + 1) ⟨ax, 0, none⟩ n (Tr.lab xs)
  ry : RowOff wq (w.heap.size + 1) (w.heap.size + 1) ⟨ay, 0, none⟩ n' (Tr.lab ys)
  ra : RowOff wq (w.heap.size + 1) (w.heap.size + 1) ⟨la, 0, none⟩ n (Zs.up (Tr.lfs xs))
  rb : RowOff wq (w.heap.size + 1) (w.heap.size + 1) ⟨lb, 0, none⟩ n' (Zs.up (Tr.lfs ys))
/-- a row made in w1 as it stands in wq -/
theorem RowOff.seen {w1 wq : World} {base g n c gt : Nat} {zs : List Int} (h : w1.ownsRow base 3 1 (.slice (some ⟨g, 0, none⟩) n c) n (ints zs)) (hc : ∀ o, wq.cell? ⟨g, o, none⟩ = w1.cell? ⟨g, o, none⟩) (hl : g < wq.heap.size) (hn : g ≠ gt) : RowOff wq gt gt ⟨g, 0, none⟩ n zs := by
  have hlen : zs.length = n := by have := h.1; rw [ints_length] at this; omega
  refine ⟨hlen, hl, hn, hn, fun k hk => ?_⟩
  have := h.cells rfl k _ (ints_at zs k (by omega))
  have e : (⟨g, 0, none⟩ : Addr).add k = ⟨g, k, none⟩ := by unfold Addr.add; split <;> simp_all
  rw [e] at this ⊢
  rw [hc k]
  exact this
section
variable {A A' : Option Addr} {n n' nm : Nat} {xs ys : Tr} {k0 k1 k2 : Addr} {c0 c1 c2 : Nat} {k : Co} {T T' : List Int} {g ax ay la lb cx cy dx dy : Nat} {w wx wq : World}
theorem AlR.keep (h : AlR A A' n n' nm xs ys k0 k1 k2 c0 c1 c2 k T g ax ay la lb cx cy dx dy w wx) (hb : Below wx.heap.size wx wq) : AlR A A' n n' nm xs ys k0 k1 k2 c0 c1 c2 k T g ax ay la lb cx cy dx dy w wq := by
  have c : ∀ i, wq.cell? ⟨g, i, none⟩ = wx.cell? ⟨g, i, none⟩ := fun i => hb.cell (p := ⟨g, i, none⟩) h.gs
  have r {ad : Addr} {m : Nat} {zs : List Int} (q : RowOff wx (w.heap.size + 1) (w.heap.size + 1) ad m zs) := q.keep hb.size (fun p hp _ _ => hb.cell hp)
  exact ⟨h.al.keep hb, h.gl, Nat.lt_of_lt_of_le h.gs hb.size, (c 0).trans h.t0, (c 1).trans h.t1, (c 2).trans h.t2, (c 3).trans h.t3, (c 4).trans h.t4, (c 5).trans h.t5, (c 6).trans h.t6, r h.rx, r h.ry, r h.ra, r h.rb⟩
theorem AlR.step (h : AlR A A' n n' nm xs ys k0 k1 k2 c0 c1 c2 k T g ax ay la lb cx cy dx dy w wx) (hc : ∀ p : Addr, p.block < wx.heap.size → p.block ≠ w.heap.size + 1 → wq.cell? p = wx.cell? p) (hb : Below w.heap.size wx wq) (ht : wq.ownsRow w.heap.size 3 1 (.slice (some ⟨w.heap.size + 1, 0, none⟩) nm nm) nm (ints T')) : AlR A A' n n' nm xs ys k0 k1 k2 c0 c1 c2 k T' g ax ay la lb cx cy dx dy w wq := by
  have gl := h.gl
  have c : ∀ i, wq.cell? ⟨g, i, none⟩ = wx.cell? ⟨g, i, none⟩ := fun i => hc ⟨g, i, none⟩ h.gs (by show g ≠ _; omega)
  have r {ad : Addr} {m : Nat} {zs : List Int} (q : RowOff wx (w.heap.size + 1) (w.heap.size + 1) ad m zs) := q.keep hb.size (fun p hp h1 _ => hc p hp h1)
  exact ⟨h.al.step hc hb ht, h.gl, Nat.lt_of_lt_of_le h.gs hb.size, (c 0).trans h.t0, (c 1).trans h.t1, (c 2).trans h.t2, (c 3).trans h.t3, (c 4).trans h.t4, (c 5).trans h.t5, (c 6).trans h.t6, r h.rx, r h.ry, r h.ra, r h.rb⟩
end
/-- the last table of forests, that of the roots -/
def AllLast (xs ys : Tr) (k : Co) (base : Nat) (lv : Value) (wq : World) : Prop :=
  ∃ (hf : Nat) (f : List Int), lv = .slice (some ⟨hf, 0, none⟩) ((xs.length + 1) * (ys.length + 1)) ((xs.length + 1) * (ys.length + 1)) ∧ wq.ownsRow base 3 1 (.slice (some ⟨hf, 0, none⟩) ((xs.length + 1) * (ys.length + 1)) ((xs.length + 1) * (ys.length + 1))) ((xs.length + 1) * (ys.length + 1)) (ints f) ∧
    ∀ a b, a ≤ xs.length → b ≤ ys.length → Zs.at f (a * (ys.length + 1) + b) = RR xs ys k 0 a 0 b
theorem AllLast.of {xs ys : Tr} {k : Co} {base kk ll ki kj hf nf y : Nat} {f T0 T : List Int} {wq : World} (hx : Tr.ok xs = true) (hy : Tr.ok ys = true) (hk : kk + 1 = (Tr.krs xs).length) (hl : ll + 1 = (Tr.krs ys).length) (hi : ki = Tr.kr xs kk) (hj : kj = Tr.kr ys ll)
    (hF : Fill xs ys k ki kj (ki + 1) y (fun a b => Zs.at f (ix (Tr.la xs ki) (Tr.la ys kj) (kj - Tr.la ys kj + 2) a b)) T0 T) (hnf : nf = (ki - Tr.la xs ki + 2) * (kj - Tr.la ys kj + 2))
    (ho : wq.ownsRow base 3 1 (.slice (some ⟨hf, 0, none⟩) nf nf) nf (ints f)) : AllLast xs ys k base (.slice (some ⟨hf, 0, none⟩) nf nf) wq := by
  have n1 := (Tr.len24 hx).1
  have n2 := (Tr.len24 hy).1
  rw [hi, hj] at hF
  have h := fill_last hx hy hk hl hF
  have e1 := Tr.kr_end hx hk
  have e2 := Tr.kr_end hy hl
  rw [hi, hj, e1, e2, Tr.la_last hx, Tr.la_last hy, show xs.length - 1 - 0 + 2 = xs.length + 1 by omega, show ys.length - 1 - 0 + 2 = ys.length + 1 by omega] at hnf
  rw [e1, e2, Tr.la_last hx, Tr.la_last hy, show ys.length - 1 - 0 + 2 = ys.length + 1 by omega] at h
  subst hnf
  exact ⟨hf, f, rfl, ho, fun a b ha hb => by have := h a b ha hb; exact this⟩
end Go.Proofs.Ytnfjdlocmdgefaa

/- Contracts (RelS). -/
namespace Go.Proofs.Ytnfjdlocmdgefaa
open Go.RowKit
set_option linter.unusedVariables false

set_option maxHeartbeats 1600000 in
set_option maxRecDepth 100000 in
theorem specRelCost_any (A0 A1 A2 : Option Addr) (n0 n1 n2 c0 c1 c2 : Nat) (k : Co) (a b : Int) (w : World) (h : CoIn w w.heap.size A0 A1 A2 n0 n1 n2 k) (h0 : n0 ≤ 1048576) (h1 : n1 ≤ 1048576) (h2 : n2 ≤ 1048576) :
    Calls Try.prog 77 #[.agg #[.slice A0 n0 c0, .slice A1 n1 c1, .slice A2 n2 c2], .int .i64 a, .int .i64 b] w fun e w' => e = .returned (.int .i64 (Co.rel k a b)) ∧ Below w.heap.size w w' := by
  have H := Lib.hid h
  have HL := Lib.hid h.len
  clear h
  have HB := Lib.hid ((Below.refl w.heap.size w).alloc (Nat.le_refl _) (.cells #[.slice A0 n0 c0, .slice A1 n1 c1, .slice A2 n2 c2] 27))
  have H1 := Lib.hid (H.out.to_below HB.out)
  cases e0 : Co.ok k with
  | false =>
    have Hf := Lib.hid (show Co.rel k a b = 0 by unfold Co.rel; rw [e0]; rfl)
    have E0 := Lib.hid e0
    clear e0
    go_enter Try.func77, Try.ntmps77
    go_wp2_with fail
    refine (specCostOk_any _ _ _ _ _ _ _ _ _ k _ H1.out h0 h1 h2).mono ?_
    rintro e w1 ⟨rfl, hb⟩
    have HB := Lib.hid (HB.out.trans (hb.mono HB.out.size))
    clear hb
    rw [E0.out]
    go_wp2
    go_ret
    exact ⟨Kit.ret_int Hf.out.symm, HB.out⟩
  | true =>
    cases e1 : Lab.ok a with
    | false =>
      have Hf := Lib.hid (show Co.rel k a b = 0 by unfold Co.rel; rw [e0, e1]; rfl)
      have E0 := Lib.hid e0
      have E1 := Lib.hid e1
      clear e0 e1
      go_enter Try.func77, Try.ntmps77
      go_wp2_with fail
      refine (specCostOk_any _ _ _ _ _ _ _ _ _ k _ H1.out h0 h1 h2).mono ?_
      rintro e w1 ⟨rfl, hb⟩
      have HB := Lib.hid (HB.out.trans (hb.mono HB.out.size))
      clear hb
      rw [E0.out]
      go_wp2_with fail
      refine (specLabelOk_any _ _).mono ?_
      rintro e w2 ⟨rfl, rfl⟩
      rw [E1.out]
      go_wp2
      go_ret
      exact ⟨Kit.ret_int Hf.out.symm, HB.out⟩
    | true =>
      cases e2 : Lab.ok b with
      | false =>
        have Hf := Lib.hid (show Co.rel k a b = 0 by unfold Co.rel; rw [e0, e1, e2]; rfl)
        have E0 := Lib.hid e0
        have E1 := Lib.hid e1
        have E2 := Lib.hid e2
        clear e0 e1 e2
        go_enter Try.func77, Try.ntmps77
        go_wp2_with fail
        refine (specCostOk_any _ _ _ _ _ _ _ _ _ k _ H1.out h0 h1 h2).mono ?_
        rintro e w1 ⟨rfl, hb⟩
        have HB := Lib.hid (HB.out.trans (hb.mono HB.out.size))
        clear hb
        rw [E0.out]
        go_wp2_with fail
        refine (specLabelOk_any _ _).mono ?_
        rintro e w2 ⟨rfl, rfl⟩
        rw [E1.out]
        go_wp2_with fail
        refine (specLabelOk_any _ _).mono ?_
        rintro e w3 ⟨rfl, rfl⟩
        rw [E2.out]
        go_wp2
        go_ret
        exact ⟨Kit.ret_int Hf.out.symm, HB.out⟩
      | true =>
        have hd := (Zs.fit_iff.1 (Co.ok_iff.1 e0).2.2.1).1
        have ha : 0 ≤ a ∧ a ≤ 5 := by simpa [Lab.ok] using e1
        have hb' : 0 ≤ b ∧ b ≤ 5 := by simpa [Lab.ok] using e2
        obtain ⟨i, rfl⟩ := Int.eq_ofNat_of_zero_le ha.1
        obtain ⟨j, rfl⟩ := Int.eq_ofNat_of_zero_le hb'.1
        obtain ⟨p, hp⟩ : ∃ p, p = i * 6 + j := ⟨_, rfl⟩
        have Hf := Lib.hid (show Co.rel k (i : Int) (j : Int) = Zs.at k.r p by unfold Co.rel; rw [e0, e1, e2, hp]; rfl)
        have E0 := Lib.hid e0
        have E1 := Lib.hid e1
        have E2 := Lib.hid e2
        have hn6 : n2 = 36 := by rw [← hd]; exact HL.out.2.2.symm
        clear e0 e1 e2 hd
        subst hn6
        obtain ⟨ad, rfl, _⟩ := H1.out.2.2.2.1 (by omega)
        have a1 : IntKind.i64.wrap ((i : Int) * 6) = (i : Int) * 6 := Kit.w64 (by omega) (by omega)
        have a2 : IntKind.i64.wrap ((i : Int) * 6 + (j : Int)) = (p : Int) := by rw [Kit.w64 (by omega) (by omega)]; omega
        have a3 : (i : Int) * 6 + (j : Int) = (p : Int) := by omega
        have k1 : (0 : Int) ≤ (p : Int) := by omega
        have k2 : (p : Int) < 36 := by omega
        have hp36 : p < 36 := by omega
        have g0 : (w.alloc (.cells #[.slice A0 n0 c0, .slice A1 n1 c1, .slice (some ad) 36 c2] 27)).cell? ⟨w.heap.size, 2, none⟩ = some (.slice (some ad) 36 c2) := by simp
        clear hp ha hb'
        go_enter Try.func77, Try.ntmps77
        go_wp2_with fail
        refine (specCostOk_any _ _ _ _ _ _ _ _ _ k _ H1.out h0 h1 h2).mono ?_
        rintro e w1 ⟨rfl, hb⟩
        have HB := Lib.hid (HB.out.trans (hb.mono HB.out.size))
        have H1 := Lib.hid (H1.out.to_below hb)
        have g1 := (hb.cell (p := ⟨w.heap.size, 2, none⟩) (by simp)).trans g0
        have c1' := H1.out.2.2.here (k := p) hp36
        clear hb g0
        rw [E0.out]
        go_wp2_with fail
        refine (specLabelOk_any _ _).mono ?_
        rintro e w2 ⟨rfl, rfl⟩
        rw [E1.out]
        go_wp2_with fail
        refine (specLabelOk_any _ _).mono ?_
        rintro e w3 ⟨rfl, rfl⟩
        rw [E2.out]
        go_wp2
        go_ret
        exact ⟨Kit.ret_int Hf.out.symm, HB.out⟩

end Go.Proofs.Ytnfjdlocmdgefaa

/- Contracts (TblI). -/
namespace Go.Proofs.Ytnfjdlocmdgefaa
open Go.RowKit
set_option linter.unusedVariables false

set_option maxHeartbeats 1600000 in
set_option maxRecDepth 100000 in
theorem tableOk_any (A : Option Addr) (n c : Nat) (zs : List Int) (m : Nat) (w : World) (h : IntIn w w.heap.size A n zs) (hn : n ≤ 1048576) (hm : m ≤ 1000) :
    Calls Try.prog 65 #[.slice A n c, .int .i64 m] w fun e w' => e = .returned (.bool (Zs.fit zs m)) ∧ w = w' := by
  have H := Lib.hid h
  have HL := Lib.hid h.1
  clear h
  by_cases hnm : n = m
  · subst hnm
    have q0 : ((n : Int) != (n : Int)) = false := by simp
    go_enter Try.func65, Try.ntmps65
    go_wp2
    go_loop [13] (fun iv => ∃ k : Nat, k ≤ n ∧ iv = .int .i64 k ∧ Zs.inTo zs k) (fun i => n - (intOf i).toNat)
    case atStart => exact ⟨0, Nat.zero_le _, rfl, fun j hj => absurd hj (Nat.not_lt_zero j)⟩
    case round =>
      obtain ⟨k, hk, rfl, hin⟩ := hrel
      have HI := Lib.hid hin
      clear hin
      by_cases hlt : k < n
      · obtain ⟨ad, rfl, _, c1⟩ := H.out.at_ hlt
        obtain ⟨z, hz⟩ : ∃ z, z = Zs.at zs k := ⟨_, rfl⟩
        rw [← hz] at c1
        have HZ := Lib.hid hz
        clear hz
        have k0 : (0 : Int) ≤ (k : Int) := by omega
        have k1 : (k : Int) < (n : Int) := by omega
        by_cases hq0 : z < 0
        · have q : decide (z < 0) = true := by simpa using hq0
          have Hf := Lib.hid (Zs.fit_not (zs := zs) (k := k) (n := n) (by rw [HL.out]; exact hlt) (by rw [← HZ.out]; omega))
          clear hq0
          go_wp2
          go_ret
          exact ⟨Kit.ret_bool Hf.out.symm, rfl⟩
        · by_cases hq1 : 1000 < z
          · have q : decide (z < 0) = false := by simpa using hq0
            have q' : decide (1000 < z) = true := by simpa using hq1
            have Hf := Lib.hid (Zs.fit_not (zs := zs) (k := k) (n := n) (by rw [HL.out]; exact hlt) (by rw [← HZ.out]; omega))
            clear hq0 hq1
            go_wp2
            go_ret
            exact ⟨Kit.ret_bool Hf.out.symm, rfl⟩
          · have q : decide (z < 0) = false := by simpa using hq0
            have q' : decide (1000 < z) = false := by simpa using hq1
            have Hq := Lib.hid (show 0 ≤ z ∧ z ≤ 1000 by omega)
            clear hq0 hq1
            go_wp2
            go_round
            case rel => exact ⟨k + 1, by omega, by go_num, fun j hj => by
              rcases Nat.lt_succ_iff_lt_or_eq.1 hj with h' | rfl
              · exact HI.out j h'
              · rw [← HZ.out]; exact Hq.out⟩
            case measure => simp [intOf]; omega
      · obtain rfl : k = n := by omega
        have Hf := Lib.hid (Zs.fit_all (zs := zs) (n := k) (by rw [HL.out]; exact HI.out))
        go_wp2
        go_ret
        exact ⟨Kit.ret_bool (by rw [Hf.out, HL.out]; simp), rfl⟩
  · have q0 : ((n : Int) != (m : Int)) = true := by simp; omega
    have Hf := Lib.hid (show Zs.fit zs m = false by rw [Bool.eq_false_iff]; intro e; have := (Zs.fit_iff.1 e).1; rw [HL.out] at this; exact hnm this)
    clear hnm
    go_enter Try.func65, Try.ntmps65
    go_wp2
    go_ret
    exact ⟨Kit.ret_bool Hf.out.symm, rfl⟩
set_option maxHeartbeats 400000 in
theorem relIndex_any (a b : Int) (w : World) (h0 : 0 ≤ a) (h1 : a < 1000) (h2 : 0 ≤ b) (h3 : b < 1000) :
    Calls Try.prog 66 #[.int .i64 a, .int .i64 b] w fun e w' => e = .returned (.int .i64 (a * 6 + b)) ∧ w = w' := by
  go_enter Try.func66, Try.ntmps66
  go_wp2
  go_ret
  exact ⟨rfl, rfl⟩

end Go.Proofs.Ytnfjdlocmdgefaa

/- Contracts (CostOkI). -/
namespace Go.Proofs.Ytnfjdlocmdgefaa
open Go.RowKit
set_option linter.unusedVariables false

set_option maxHeartbeats 1600000 in
set_option maxRecDepth 100000 in
theorem implCostOk_any (A0 A1 A2 : Option Addr) (n0 n1 n2 c0 c1 c2 : Nat) (k : Co) (w : World) (h : CoIn w w.heap.size A0 A1 A2 n0 n1 n2 k) (h0 : n0 ≤ 1048576) (h1 : n1 ≤ 1048576) (h2 : n2 ≤ 1048576) :
    Calls Try.prog 32 #[.agg #[.slice A0 n0 c0, .slice A1 n1 c1, .slice A2 n2 c2]] w fun e w' => e = .returned (.bool (Co.ok k)) ∧ Below w.heap.size w w' := by
  have H := Lib.hid h
  have HL := Lib.hid h.len
  clear h
  have HB := Lib.hid ((Below.refl w.heap.size w).alloc (Nat.le_refl _) (.cells #[.slice A0 n0 c0, .slice A1 n1 c1, .slice A2 n2 c2] 27))
  have H1 := Lib.hid (H.out.to_below HB.out)
  cases e0 : Zs.fit k.d 6 with
  | false =>
    have Hf := Lib.hid (show Co.ok k = false by unfold Co.ok; rw [e0]; rfl)
    have E0 := Lib.hid e0
    clear e0
    go_enter Try.func32, Try.ntmps32
    go_wp2_with fail
    refine (tableOk_any _ _ _ k.d 6 _ H1.out.1 h0 (by decide)).mono ?_
    rintro e w1 ⟨rfl, rfl⟩
    rw [E0.out]
    go_wp2
    go_ret
    exact ⟨Kit.ret_bool Hf.out.symm, HB.out⟩
  | true =>
    cases e1 : Zs.fit k.i 6 with
    | false =>
      have Hf := Lib.hid (show Co.ok k = false by unfold Co.ok; rw [e0, e1]; rfl)
      have E0 := Lib.hid e0
      have E1 := Lib.hid e1
      clear e0 e1
      go_enter Try.func32, Try.ntmps32
      go_wp2_with fail
      refine (tableOk_any _ _ _ k.d 6 _ H1.out.1 h0 (by decide)).mono ?_
      rintro e w1 ⟨rfl, rfl⟩
      rw [E0.out]
      go_wp2_with fail
      refine (tableOk_any _ _ _ k.i 6 _ H1.out.2.1 h1 (by decide)).mono ?_
      rintro e w1 ⟨rfl, rfl⟩
      rw [E1.out]
      go_wp2
      go_ret
      exact ⟨Kit.ret_bool Hf.out.symm, HB.out⟩
    | true =>
      cases e2 : Zs.fit k.r 36 with
      | false =>
        have Hf := Lib.hid (show Co.ok k = false by unfold Co.ok; rw [e0, e1, e2]; rfl)
        have E0 := Lib.hid e0
        have E1 := Lib.hid e1
        have E2 := Lib.hid e2
        clear e0 e1 e2
        go_enter Try.func32, Try.ntmps32
        go_wp2_with fail
        refine (tableOk_any _ _ _ k.d 6 _ H1.out.1 h0 (by decide)).mono ?_
        rintro e w1 ⟨rfl, rfl⟩
        rw [E0.out]
        go_wp2_with fail
        refine (tableOk_any _ _ _ k.i 6 _ H1.out.2.1 h1 (by decide)).mono ?_
        rintro e w1 ⟨rfl, rfl⟩
        rw [E1.out]
        go_wp2_with fail
        refine (tableOk_any _ _ _ k.r 36 _ H1.out.2.2 h2 (by decide)).mono ?_
        rintro e w1 ⟨rfl, rfl⟩
        rw [E2.out]
        go_wp2
        go_ret
        exact ⟨Kit.ret_bool Hf.out.symm, HB.out⟩
      | true =>
        have Hf := Lib.hid (show Co.ok k = Co.diag k by unfold Co.ok; rw [e0, e1, e2]; rfl)
        have hr := (Zs.fit_iff.1 e2).1
        have hn2 : n2 = 36 := by rw [← hr]; exact HL.out.2.2.symm
        have E0 := Lib.hid e0
        have E1 := Lib.hid e1
        have E2 := Lib.hid e2
        clear e0 e1 e2 hr
        subst hn2
        obtain ⟨ad, rfl, _⟩ := H1.out.2.2.2.1 (by omega)
        go_enter Try.func32, Try.ntmps32
        go_wp2_with fail
        refine (tableOk_any _ _ _ k.d 6 _ H1.out.1 h0 (by decide)).mono ?_
        rintro e w1 ⟨rfl, rfl⟩
        rw [E0.out]
        go_wp2_with fail
        refine (tableOk_any _ _ _ k.i 6 _ H1.out.2.1 h1 (by decide)).mono ?_
        rintro e w1 ⟨rfl, rfl⟩
        rw [E1.out]
        go_wp2_with fail
        refine (tableOk_any _ _ _ k.r 36 _ H1.out.2.2 h2 (by decide)).mono ?_
        rintro e w1 ⟨rfl, rfl⟩
        rw [E2.out]
        have HX := Lib.hid (Box3.made w (.slice A0 n0 c0) (.slice A1 n1 c1) (.slice (some ad) 36 c2) 27)
        obtain ⟨wz, hwz⟩ : ∃ wz, wz = w.alloc (.cells #[.slice A0 n0 c0, .slice A1 n1 c1, .slice (some ad) 36 c2] 27) := ⟨_, rfl⟩
        rw [← hwz] at HX HB H1
        go_wp2
        rw [← hwz]
        clear hwz
        go_loopw [20] (fun iv wr => ∃ a : Nat, a ≤ 6 ∧ iv = .int .i64 a ∧ Co.diagTo k a ∧ Drawn wz wr) (fun i _ => 6 - (intOf i).toNat)
        case atStart => exact ⟨0, Nat.zero_le _, rfl, fun j hj => absurd hj (Nat.not_lt_zero j), Drawn.refl _⟩
        case round =>
          obtain ⟨a, ha, rfl, hin, hD⟩ := hrel
          have HI := Lib.hid hin
          have HD := Lib.hid hD
          clear hin hD
          by_cases hlt : a < 6
          · have c1 := (H1.out.drawn HD.out).2.2.here (k := a * 6 + a) (by omega)
            obtain ⟨z, hz⟩ : ∃ z, z = Zs.at k.r (a * 6 + a) := ⟨_, rfl⟩
            rw [← hz] at c1
            have HZ := Lib.hid hz
            clear hz
            obtain ⟨p, hp⟩ : ∃ p, p = a * 6 + a := ⟨_, rfl⟩
            rw [← hp] at c1
            have k0 : decide ((a : Int) < 6) = true := by simp; omega
            have x0 := (HX.out.drawn HD.out).2.2
            have HA3 := Lib.hid (show (a : Int) * 6 + (a : Int) = (p : Int) by omega)
            have k1 : (0 : Int) ≤ (p : Int) := by omega
            have k2 : (p : Int) < 36 := by omega
            have HP := Lib.hid hp
            clear hp
            by_cases hq : z = 0
            · have q : (z != 0) = false := by simpa using hq
              have Hq := Lib.hid hq
              clear hq
              go_wp2_with fail
              go_quiet (first | (go_at_call 66; exact quiet_same ((relIndex_any _ _ _ (by omega) (by omega) (by omega) (by omega)).mono fun e w' ⟨h1, h2⟩ => ⟨by rw [h1, HA3.out], h2⟩)))
              go_wp2
              go_roundw
              case rel =>
                refine ⟨a + 1, by omega, by go_num, fun j hj => ?_, HD.out.drewN _⟩
                rcases Nat.lt_succ_iff_lt_or_eq.1 hj with h' | rfl
                · exact HI.out j h'
                · rw [← HZ.out]; exact Hq.out
              case measure => simp [intOf]; omega
            · have q : (z != 0) = true := by simpa using hq
              have Hd := Lib.hid (Co.diag_not (k := k) hlt (by rw [← HZ.out]; exact hq))
              clear hq
              go_wp2_with fail
              go_quiet (first | (go_at_call 66; exact quiet_same ((relIndex_any _ _ _ (by omega) (by omega) (by omega) (by omega)).mono fun e w' ⟨h1, h2⟩ => ⟨by rw [h1, HA3.out], h2⟩)))
              go_wp2
              go_ret
              exact ⟨Kit.ret_bool (by rw [Hf.out, Hd.out]), HB.out.trans ((HD.out.drewN _).toBelow)⟩
          · obtain rfl : a = 6 := by omega
            have Hd := Lib.hid (Co.diag_all HI.out)
            go_wp2
            go_ret
            exact ⟨Kit.ret_bool (by rw [Hf.out, Hd.out]), HB.out.trans HD.out.toBelow⟩

end Go.Proofs.Ytnfjdlocmdgefaa

/- Contracts (SidO). -/
namespace Go.Proofs.Ytnfjdlocmdgefaa
open Go.RowKit
set_option linter.unusedVariables false

/-- trees and costs are valid -/
def DOk (xs ys : Tr) (k : Co) : Bool := Tr.ok xs && Tr.ok ys && Co.ok k
theorem DOk.parts {xs ys : Tr} {k : Co} (h : DOk xs ys k = true) : Tr.ok xs = true ∧ Tr.ok ys = true ∧ Co.ok k = true := by
  simp only [DOk, Bool.and_eq_true] at h
  exact ⟨h.1.1, h.1.2, h.2⟩
/-- the result's variable of nine cells, the costs' box and the arguments, while sidesOf goes on -/
structure SoG (A A' : Option Addr) (n n' : Nat) (xs ys : Tr) (K0 K1 K2 : Option Addr) (n0 n1 n2 c0 c1 c2 : Nat) (k : Co) (w wq : World) : Prop where
  a : NdIn wq w.heap.size A n xs
  b : NdIn wq w.heap.size A' n' ys
  k : CoIn wq w.heap.size K0 K1 K2 n0 n1 n2 k
  bl : Below w.heap.size w wq
  q : Box3 wq w.heap.size (.slice K0 n0 c0) (.slice K1 n1 c1) (.slice K2 n2 c2)
  cs : ∀ o, o < 9 → ∃ z, wq.cell? ⟨w.heap.size + 1, o, none⟩ = some z
  fz : ∀ o, wq.frozen? ⟨w.heap.size + 1, o, none⟩ = false
  lt : w.heap.size + 1 < wq.heap.size
section
variable {A A' : Option Addr} {n n' : Nat} {xs ys : Tr} {K0 K1 K2 : Option Addr} {n0 n1 n2 c0 c1 c2 : Nat} {k : Co} {w wx wq : World}
theorem SoG.keep (h : SoG A A' n n' xs ys K0 K1 K2 n0 n1 n2 c0 c1 c2 k w wx) (hb : Below wx.heap.size wx wq) : SoG A A' n n' xs ys K0 K1 K2 n0 n1 n2 c0 c1 c2 k w wq := by
  have hs := h.bl.size
  have hl := h.lt
  have hb' := hb.mono (B' := w.heap.size) (by omega)
  exact ⟨h.a.below hb', h.b.below hb', h.k.below hb', h.bl.trans hb', h.q.below hb (by omega), fun o ho => by obtain ⟨z, hz⟩ := h.cs o ho; exact ⟨z, (hb.cell (p := ⟨w.heap.size + 1, o, none⟩) hl).trans hz⟩, free_below hb hl h.fz, Nat.lt_of_lt_of_le hl hb.size⟩
theorem SoG.set (h : SoG A A' n n' xs ys K0 K1 K2 n0 n1 n2 c0 c1 c2 k w wx) (o : Nat) (v : Value) : SoG A A' n n' xs ys K0 K1 K2 n0 n1 n2 c0 c1 c2 k w (wx.setCell ⟨w.heap.size + 1, o, none⟩ v) := by
  have hb : Below w.heap.size wx (wx.setCell ⟨w.heap.size + 1, o, none⟩ v) := (Below.refl _ _).setCell (by show w.heap.size ≤ w.heap.size + 1; omega) _
  have hq : ∀ i, (wx.setCell ⟨w.heap.size + 1, o, none⟩ v).cell? ⟨w.heap.size, i, none⟩ = wx.cell? ⟨w.heap.size, i, none⟩ := fun i => World.cell?_setCell_other _ _ _ _ (fun e => by injection e with e1 _; omega)
  refine ⟨h.a.below hb, h.b.below hb, h.k.below hb, h.bl.setCell (by show w.heap.size ≤ w.heap.size + 1; omega) _, ⟨(hq 0).trans h.q.1, (hq 1).trans h.q.2.1, (hq 2).trans h.q.2.2⟩, fun i hi => ?_, fun i => by rw [World.frozen?_setCell]; exact h.fz i, by simp; exact h.lt⟩
  obtain ⟨z, hz⟩ := h.cs i hi
  by_cases e : i = o
  · rw [e] at hz ⊢
    exact ⟨v, World.cell?_setCell_same' _ _ _ (by rw [hz]; rfl)⟩
  · exact ⟨z, by rw [World.cell?_setCell_other _ _ _ _ (fun e' => e (by injection e' with _ e2; exact e2.symm)), hz]⟩
theorem SoG.made (ha : NdIn w w.heap.size A n xs) (hb : NdIn w w.heap.size A' n' ys) (hk : CoIn w w.heap.size K0 K1 K2 n0 n1 n2 k) : SoG A A' n n' xs ys K0 K1 K2 n0 n1 n2 c0 c1 c2 k w ((w.alloc (.cells #[.slice K0 n0 c0, .slice K1 n1 c1, .slice K2 n2 c2] 27)).alloc (.cells #[.slice none 0 0, .slice none 0 0, .slice none 0 0, .slice none 0 0, .slice none 0 0, .slice none 0 0, .slice none 0 0, .slice none 0 0, .slice none 0 0] 70)) := by
  obtain ⟨wc, hwc⟩ : ∃ wc, wc = w.alloc (.cells #[.slice K0 n0 c0, .slice K1 n1 c1, .slice K2 n2 c2] 27) := ⟨_, rfl⟩
  have hbc : Below w.heap.size w wc := by rw [hwc]; exact (Below.refl _ _).alloc (Nat.le_refl _) _
  have hzc : wc.heap.size = w.heap.size + 1 := by rw [hwc]; simp
  have q : Box3 wc w.heap.size (.slice K0 n0 c0) (.slice K1 n1 c1) (.slice K2 n2 c2) := by rw [hwc]; exact Box3.made _ _ _ _ _
  rw [← hwc]
  have h2 : Below w.heap.size w (wc.alloc (.cells #[.slice none 0 0, .slice none 0 0, .slice none 0 0, .slice none 0 0, .slice none 0 0, .slice none 0 0, .slice none 0 0, .slice none 0 0, .slice none 0 0] 70)) := hbc.alloc (by omega) _
  refine ⟨ha.below h2, hb.below h2, hk.below h2, h2, q.alloc (by omega) _, fun o ho => ⟨.slice none 0 0, ?_⟩, fun o => by rw [← hzc]; simp, by simp; omega⟩
  rw [← hzc]
  refine cell_made _ _ _ _ _ ?_
  rcases o with _ | _ | _ | _ | _ | _ | _ | _ | _ | o <;> first | rfl | omega
end
end Go.Proofs.Ytnfjdlocmdgefaa

/- What is known of forests: the model's memo of chapter 9. -/
namespace Go.Proofs.Ytnfjdlocmdgefaa
open Go.RowKit
set_option linter.unusedVariables false

/-- where what is known of a range of both trees stands -/
def ix9 (n m i j p q : Nat) : Nat := ((i * (n + 1) + j) * (m + 1) + p) * (m + 1) + q
theorem ix9_lt {n m i j p q : Nat} (hi : i ≤ n) (hj : j ≤ n) (hp : p ≤ m) (hq : q ≤ m) : ix9 n m i j p q < (n + 1) * (n + 1) * (m + 1) * (m + 1) := by
  unfold ix9
  exact idx_lt (idx_lt (idx_lt (by omega) (by omega)) (by omega)) (by omega)
theorem ix9_inj {n m i j p q i' j' p' q' : Nat} (hj : j ≤ n) (hp : p ≤ m) (hq : q ≤ m) (hj' : j' ≤ n) (hp' : p' ≤ m) (hq' : q' ≤ m) (h : ix9 n m i j p q = ix9 n m i' j' p' q') : i = i' ∧ j = j' ∧ p = p' ∧ q = q' := by
  unfold ix9 at h
  obtain ⟨h1, h2⟩ := idx_inj (by omega) (by omega) h
  obtain ⟨h3, h4⟩ := idx_inj (by omega) (by omega) h1
  obtain ⟨h5, h6⟩ := idx_inj (by omega) (by omega) h3
  exact ⟨h5, h6, h4, h2⟩
/-- the rows that are read, and their caps -/
structure D9 where
  g : Nat
  gk : Nat
  ax : Addr
  ay : Addr
  la : Addr
  lb : Addr
  k0 : Addr
  k1 : Addr
  k2 : Addr
  cx : Nat
  cy : Nat
  dx : Nat
  dy : Nat
  e0 : Nat
  e1 : Nat
  e2 : Nat
structure M9 (B N : Nat) (D : D9) (xs ys : Tr) (k : Co) (K : List Int) (w : World) : Prop where
  gB : B ≤ D.g
  gl : D.g < w.heap.size
  gg : D.gk ≠ D.g
  hN : N = (xs.length + 1) * (xs.length + 1) * (ys.length + 1) * (ys.length + 1)
  h0 : w.cell? ⟨D.g, 0, none⟩ = some (.slice (some D.ax) xs.length D.cx)
  h1 : w.cell? ⟨D.g, 1, none⟩ = some (.slice (some D.ay) ys.length D.cy)
  h2 : w.cell? ⟨D.g, 2, none⟩ = some (.slice (some D.la) xs.length D.dx)
  h3 : w.cell? ⟨D.g, 3, none⟩ = some (.slice (some D.lb) ys.length D.dy)
  h4 : w.cell? ⟨D.g, 4, none⟩ = some (.slice (some ⟨D.gk, 0, none⟩) N N)
  h5 : w.cell? ⟨D.g, 5, none⟩ = some (.slice (some D.k0) 6 D.e0)
  h6 : w.cell? ⟨D.g, 6, none⟩ = some (.slice (some D.k1) 6 D.e1)
  h7 : w.cell? ⟨D.g, 7, none⟩ = some (.slice (some D.k2) 36 D.e2)
  row : w.ownsRow B 3 1 (.slice (some ⟨D.gk, 0, none⟩) N N) N (ints K)
  kn : ∀ i j p q, i ≤ j → j ≤ xs.length → p ≤ q → q ≤ ys.length → Zs.at K (ix9 xs.length ys.length i j p q) = 0 ∨ Zs.at K (ix9 xs.length ys.length i j p q) = RR xs ys k i j p q + 1
  rx : RowOff w D.g D.gk D.ax xs.length (Tr.lab xs)
  ry : RowOff w D.g D.gk D.ay ys.length (Tr.lab ys)
  ra : RowOff w D.g D.gk D.la xs.length (Zs.up (Tr.lfs xs))
  rb : RowOff w D.g D.gk D.lb ys.length (Zs.up (Tr.lfs ys))
  r0 : RowOff w D.g D.gk D.k0 6 k.d
  r1 : RowOff w D.g D.gk D.k1 6 k.i
  r2 : RowOff w D.g D.gk D.k2 36 k.r
section
variable {B N : Nat} {D : D9} {xs ys : Tr} {k : Co} {K : List Int} {w w' : World}
theorem M9.klen (h : M9 B N D xs ys k K w) : K.length = N := by have := h.row.1; rw [ints_length] at this; omega
theorem M9.drawn (h : M9 B N D xs ys k K w) (hd : Drawn w w') : M9 B N D xs ys k K w' := by
  have hc : ∀ p, w'.cell? p = w.cell? p := fun p => hd.cell p
  have hs : w.heap.size ≤ w'.heap.size := by obtain ⟨m, rfl⟩ := hd; exact Nat.le_refl _
  have r {ad : Addr} {n : Nat} {zs : List Int} (q : RowOff w D.g D.gk ad n zs) : RowOff w' D.g D.gk ad n zs := q.keep hs (fun p _ _ _ => hc p)
  exact ⟨h.gB, Nat.lt_of_lt_of_le h.gl hs, h.gg, h.hN, (hc _).trans h.h0, (hc _).trans h.h1, (hc _).trans h.h2, (hc _).trans h.h3, (hc _).trans h.h4, (hc _).trans h.h5, (hc _).trans h.h6, (hc _).trans h.h7, own_drawn h.row hd, h.kn, r h.rx, r h.ry, r h.ra, r h.rb, r h.r0, r h.r1, r h.r2⟩
theorem M9.set (h : M9 B N D xs ys k K w) {i j p q : Nat} (hij : i ≤ j) (hj : j ≤ xs.length) (hpq : p ≤ q) (hq : q ≤ ys.length) : M9 B N D xs ys k (K.set (ix9 xs.length ys.length i j p q) (RR xs ys k i j p q + 1)) (w.setCell ⟨D.gk, ix9 xs.length ys.length i j p q, none⟩ (.int .i64 (RR xs ys k i j p q + 1))) := by
  have hlt : ix9 xs.length ys.length i j p q < K.length := by rw [h.klen, h.hN]; exact ix9_lt (by omega) hj (by omega) hq
  have hl : ∀ o, (w.setCell ⟨D.gk, ix9 xs.length ys.length i j p q, none⟩ (.int .i64 (RR xs ys k i j p q + 1))).cell? ⟨D.g, o, none⟩ = w.cell? ⟨D.g, o, none⟩ := fun o => World.cell?_setCell_other _ _ _ _ (fun e => by injection e with e1 e2; exact h.gg e1)
  have ho : ∀ z : Addr, z.block < w.heap.size → z.block ≠ D.g → z.block ≠ D.gk → (w.setCell ⟨D.gk, ix9 xs.length ys.length i j p q, none⟩ (.int .i64 (RR xs ys k i j p q + 1))).cell? z = w.cell? z := fun z _ _ hz => World.cell?_setCell_other _ _ _ _ (fun e => hz (by rw [← e]))
  have hsz : (w.setCell ⟨D.gk, ix9 xs.length ys.length i j p q, none⟩ (.int .i64 (RR xs ys k i j p q + 1))).heap.size = w.heap.size := by simp
  have r {ad : Addr} {n : Nat} {zs : List Int} (q : RowOff w D.g D.gk ad n zs) := q.keep (Nat.le_of_eq hsz.symm) ho
  exact ⟨h.gB, by rw [hsz]; exact h.gl, h.gg, h.hN, (hl _).trans h.h0, (hl _).trans h.h1, (hl _).trans h.h2, (hl _).trans h.h3, (hl _).trans h.h4, (hl _).trans h.h5, (hl _).trans h.h6, (hl _).trans h.h7,
    by have := (h.row.stored (ix9 xs.length ys.length i j p q) (.int .i64 (RR xs ys k i j p q + 1))).1; rw [ints_set] at this; exact this,
    fun i' j' p' q' a1 a2 a3 a4 => by
      rw [Zs.at_set hlt]
      by_cases e : ix9 xs.length ys.length i' j' p' q' = ix9 xs.length ys.length i j p q
      · rw [if_pos e]
        obtain ⟨rfl, rfl, rfl, rfl⟩ := ix9_inj (by omega) (by omega) a4 (by omega) (by omega) hq e
        exact .inr rfl
      · rw [if_neg e]; exact h.kn i' j' p' q' a1 a2 a3 a4,
    r h.rx, r h.ry, r h.ra, r h.rb, r h.r0, r h.r1, r h.r2⟩
/-- below B nothing has turned, and above it nothing but block gk -/
structure GB (B gk : Nat) (w0 w : World) : Prop where
  bl : Below B w0 w
  gr : w0.grownBy w (some gk)
theorem GB.refl (B gk : Nat) (w : World) : GB B gk w w := ⟨Below.refl _ _, World.grownBy.refl _ _⟩
theorem GB.trans {B gk : Nat} {a b c : World} (h : GB B gk a b) (h' : GB B gk b c) : GB B gk a c := ⟨h.bl.trans h'.bl, h.gr.trans h'.gr⟩
theorem GB.mono {B B' gk : Nat} {a b : World} (h : GB B gk a b) (hb : B' ≤ B) : Below B' a b := h.bl.mono hb
theorem GB.of_drawn {B gk : Nat} {a b : World} (hd : Drawn a b) : GB B gk a b := ⟨hd.toBelow, ⟨(hd.toBelow (B := 0)).os, (hd.toBelow (B := 0)).tape, (hd.toBelow (B := 0)).output, (hd.toBelow (B := 0)).size, fun i _ _ => (hd.toBelow (B := i + 1)).block i (Nat.lt_succ_self i)⟩⟩
theorem GB.drawn {B gk : Nat} {a b c : World} (h : GB B gk a b) (hd : Drawn b c) : GB B gk a c := h.trans (GB.of_drawn hd)
theorem GB.setCell {B gk : Nat} {a b : World} (h : GB B gk a b) (hB : B ≤ gk) (o : Nat) (v : Value) : GB B gk a (b.setCell ⟨gk, o, none⟩ v) :=
  ⟨h.bl.setCell hB _, h.gr.trans ⟨rfl, rfl, rfl, by simp [World.setCell], fun k _ hne => Below.heap_setCell _ _ _ _ (fun e => hne (by rw [e]))⟩⟩
/-- the memo holds some knowledge; below B nothing has turned -/
def K9 (B N : Nat) (D : D9) (xs ys : Tr) (k : Co) (w0 w : World) : Prop := (∃ K, M9 B N D xs ys k K w) ∧ GB B D.gk w0 w
end

end Go.Proofs.Ytnfjdlocmdgefaa

/- Contracts (New9). -/
namespace Go.Proofs.Ytnfjdlocmdgefaa
open Go.RowKit
set_option linter.unusedVariables false

/-- what l9New holds while it makes its rows -/
structure NwG (A A' : Option Addr) (n n' : Nat) (xs ys : Tr) (K0 K1 K2 : Option Addr) (c0 c1 c2 : Nat) (k : Co) (w wq : World) : Prop where
  a : NdIn wq w.heap.size A n xs
  b : NdIn wq w.heap.size A' n' ys
  k : CoIn wq w.heap.size K0 K1 K2 6 6 36 k
  bl : Below w.heap.size w wq
  q : Box3 wq w.heap.size (.slice K0 6 c0) (.slice K1 6 c1) (.slice K2 36 c2)
  lt : w.heap.size < wq.heap.size
section
variable {A A' : Option Addr} {n n' : Nat} {xs ys : Tr} {K0 K1 K2 : Option Addr} {c0 c1 c2 : Nat} {k : Co} {w wx wq : World}
theorem NwG.keep (h : NwG A A' n n' xs ys K0 K1 K2 c0 c1 c2 k w wx) (hb : Below wx.heap.size wx wq) : NwG A A' n n' xs ys K0 K1 K2 c0 c1 c2 k w wq := by
  have hl := h.lt
  have hb' := hb.mono (B' := w.heap.size) (by omega)
  exact ⟨h.a.below hb', h.b.below hb', h.k.below hb', h.bl.trans hb', h.q.below hb hl, Nat.lt_of_lt_of_le hl hb.size⟩
end
/-- the memo, new -/
theorem M9.made {B N : Nat} {xs ys : Tr} {k : Co} {w : World} {g1 g2 g3 g4 gk e1 e2 e3 e4 c0 c1 c2 : Nat} {k0 k1 k2 : Addr} {t : TypeId} (hN : N = (xs.length + 1) * (xs.length + 1) * (ys.length + 1) * (ys.length + 1))
    (r1 : w.ownsRow B 3 1 (.slice (some ⟨g1, 0, none⟩) xs.length e1) xs.length (ints (Tr.lab xs))) (r2 : w.ownsRow B 3 1 (.slice (some ⟨g2, 0, none⟩) ys.length e2) ys.length (ints (Tr.lab ys))) (r3 : w.ownsRow B 3 1 (.slice (some ⟨g3, 0, none⟩) xs.length e3) xs.length (ints (Zs.up (Tr.lfs xs)))) (r4 : w.ownsRow B 3 1 (.slice (some ⟨g4, 0, none⟩) ys.length e4) ys.length (ints (Zs.up (Tr.lfs ys))))
    (rk : w.ownsRow B 3 1 (.slice (some ⟨gk, 0, none⟩) N N) N (ints (List.replicate N 0))) (hk : CoIn w B (some k0) (some k1) (some k2) 6 6 36 k) (n1 : g1 ≠ gk) (n2 : g2 ≠ gk) (n3 : g3 ≠ gk) (n4 : g4 ≠ gk) (hB : B ≤ w.heap.size) :
    M9 B N ⟨w.heap.size, gk, ⟨g1, 0, none⟩, ⟨g2, 0, none⟩, ⟨g3, 0, none⟩, ⟨g4, 0, none⟩, k0, k1, k2, e1, e2, e3, e4, c0, c1, c2⟩ xs ys k (List.replicate N 0)
      (w.alloc (.cells #[.slice (some ⟨g1, 0, none⟩) xs.length e1, .slice (some ⟨g2, 0, none⟩) ys.length e2, .slice (some ⟨g3, 0, none⟩) xs.length e3, .slice (some ⟨g4, 0, none⟩) ys.length e4, .slice (some ⟨gk, 0, none⟩) N N, .slice (some k0) 6 c0, .slice (some k1) 6 c1, .slice (some k2) 36 c2] t)) := by
  obtain ⟨_, e0, q0⟩ := hk.1.2.1 (by omega)
  injection e0 with e0; subst e0
  obtain ⟨_, e5, q1⟩ := hk.2.1.2.1 (by omega)
  injection e5 with e5; subst e5
  obtain ⟨_, e6, q2⟩ := hk.2.2.2.1 (by omega)
  injection e6 with e6; subst e6
  have lk := rk.lt gk rfl
  exact {
    gB := hB
    gl := by show w.heap.size < _; rw [size_made]; omega
    gg := by show gk ≠ w.heap.size; omega
    hN := hN
    h0 := cell_made _ _ _ 0 _ rfl, h1 := cell_made _ _ _ 1 _ rfl, h2 := cell_made _ _ _ 2 _ rfl, h3 := cell_made _ _ _ 3 _ rfl, h4 := cell_made _ _ _ 4 _ rfl, h5 := cell_made _ _ _ 5 _ rfl, h6 := cell_made _ _ _ 6 _ rfl, h7 := cell_made _ _ _ 7 _ rfl
    row := rk.alloc _
    kn := fun i j p q _ _ _ _ => .inl (by unfold Zs.at; rw [List.getD_eq_getElem?_getD, List.getElem?_replicate]; split <;> rfl)
    rx := RowOff.of_own r1 (r1.lt g1 rfl).2 n1, ry := RowOff.of_own r2 (r2.lt g2 rfl).2 n2, ra := RowOff.of_own r3 (r3.lt g3 rfl).2 n3, rb := RowOff.of_own r4 (r4.lt g4 rfl).2 n4
    r0 := RowOff.of_in hk.1 q0 lk.1 lk.2, r1 := RowOff.of_in hk.2.1 q1 lk.1 lk.2, r2 := RowOff.of_in hk.2.2 q2 lk.1 lk.2 }
end Go.Proofs.Ytnfjdlocmdgefaa

/- Contracts (Match9). -/
namespace Go.Proofs.Ytnfjdlocmdgefaa
open Go.RowKit
set_option linter.unusedVariables false

section
variable {B N : Nat} {D : D9} {xs ys : Tr} {k : Co} {w0 w w' : World}
theorem K9.next (h : K9 B N D xs ys k w0 w) (h' : K9 B N D xs ys k w w') : K9 B N D xs ys k w0 w' := ⟨h'.1, h.2.trans h'.2⟩
theorem K9.drawn (h : K9 B N D xs ys k w0 w) (hd : Drawn w w') : K9 B N D xs ys k w0 w' := by
  obtain ⟨⟨K, hK⟩, hb⟩ := h
  exact ⟨⟨K, hK.drawn hd⟩, hb.drawn hd⟩
end
end Go.Proofs.Ytnfjdlocmdgefaa

/- Contracts (BmD). -/
namespace Go.Proofs.Ytnfjdlocmdgefaa
open Go.RowKit
set_option linter.unusedVariables false

/-- what BestMap answers -/
def Bm.best (xs ys : Tr) (k : Co) : Tr := if DOk xs ys k = true then Bm.mt (Bm.cP xs ys) xs ys k 0 xs.length 0 ys.length else []
theorem Bm.best_yes {xs ys : Tr} {k : Co} (h : DOk xs ys k = true) : Bm.best xs ys k = Bm.mt (Bm.cP xs ys) xs ys k 0 xs.length 0 ys.length := by unfold Bm.best; rw [if_pos h]

end Go.Proofs.Ytnfjdlocmdgefaa

/- Contracts (Bm2). -/
namespace Go.Proofs.Ytnfjdlocmdgefaa
open Go.RowKit
set_option linter.unusedVariables false

/-- places as nodes -/
def Bm.f (xs ys : Tr) (e : Int × Int) : Int × Int := ((Tr.nd xs e.1.toNat : Int), (Tr.nd ys e.2.toNat : Int))
/-- pair after pair: both ascend, and descent agrees -/
def Bm.R (xs ys : Tr) (e e' : Int × Int) : Prop := e.1 < e'.1 ∧ e.2 < e'.2 ∧ Tr.under xs e.1 e'.1 = Tr.under ys e.2 e'.2
def Bm.inn (xs ys : Tr) (i j p q : Nat) (e : Int × Int) : Prop := ∃ u v : Nat, e = ((Tr.nd xs u : Int), (Tr.nd ys v : Int)) ∧ i ≤ u ∧ u < j ∧ p ≤ v ∧ v < q
theorem asc_split {L : Tr} (h : L.Pairwise fun e e' => e.1 < e'.1) (i : Nat) : (L.filter fun e => decide (e.1 < (i : Int))) ++ (L.filter fun e => decide (e.1 = (i : Int))) = L.filter fun e => decide (e.1 < ((i + 1 : Nat) : Int)) := by
  induction L with
  | nil => rfl
  | cons e L ih =>
    obtain ⟨h1, h2⟩ := List.pairwise_cons.1 h
    have ih := ih h2
    by_cases c : e.1 < (i : Int)
    · rw [List.filter_cons_of_pos (by simpa using c), List.filter_cons_of_neg (by simp; omega), List.filter_cons_of_pos (by simp; omega), List.cons_append, ih]
    · have n1 : (L.filter fun e => decide (e.1 < (i : Int))) = [] := List.filter_eq_nil_iff.2 fun e' h' => by have := h1 e' h'; simp; omega
      rw [List.filter_cons_of_neg (by simpa using c), n1]
      rw [n1, List.nil_append] at ih
      by_cases c2 : e.1 = (i : Int)
      · have n2 : (L.filter fun e => decide (e.1 = (i : Int))) = [] := List.filter_eq_nil_iff.2 fun e' h' => by have := h1 e' h'; simp; omega
        rw [List.filter_cons_of_pos (by simpa using c2), List.filter_cons_of_pos (by simp; omega), n2, ← ih, n2]
        rfl
      · rw [List.filter_cons_of_neg (by simpa using c2), List.filter_cons_of_neg (by simp; omega), List.nil_append]
        exact ih
theorem one_key {L : Tr} (h : L.Pairwise fun e e' => e.1 < e'.1) (a : Int) : (L.filter fun e => decide (e.1 = a)) = [] ∨ ∃ x, (L.filter fun e => decide (e.1 = a)) = [x] := by
  have hp : (L.filter fun e => decide (e.1 = a)).Pairwise fun e e' => e.1 < e'.1 := h.filter _
  rcases hl : (L.filter fun e => decide (e.1 = a)) with _ | ⟨x, _ | ⟨y, r⟩⟩
  · exact .inl hl
  · exact .inr ⟨x, hl⟩
  · rw [hl] at hp
    have hx : x ∈ (L.filter fun e => decide (e.1 = a)) := by rw [hl]; simp
    have hy : y ∈ (L.filter fun e => decide (e.1 = a)) := by rw [hl]; simp
    have := (List.pairwise_cons.1 hp).1 y (by simp)
    have e1 := (List.mem_filter.1 hx).2
    have e2 := (List.mem_filter.1 hy).2
    simp only [decide_eq_true_eq] at e1 e2
    omega
section
variable {xs ys : Tr} {k : Co} (hx : Tr.ok xs = true) (hy : Tr.ok ys = true)
include hx hy
theorem Bm.go_perm {i j p q : Nat} (hj : j ≤ xs.length) (hq : q ≤ ys.length) : (Bm.go (Bm.cP xs ys) xs ys k i j p q).Perm ((Bm.go Bm.cS xs ys k i j p q).map (Bm.f xs ys)) := by
  refine Bm.go_ind (M := fun i j p q L => L.Perm ((Bm.go Bm.cS xs ys k i j p q).map (Bm.f xs ys))) hx hy ?_ ?_ ?_ ?_ (j - i + (q - p) + 1) i j p q (by omega) hj hq
  · intro i j p q h; rw [Bm.go_none h]; exact List.Perm.refl _
  · intro i j p q L h1 h2 _ _ h h3; rw [Bm.go_del h1 h2 h]; exact h3
  · intro i j p q L h1 h2 _ _ h h' h3; rw [Bm.go_ins h1 h2 h h']; exact h3
  · intro i j p q P Q A B h1 h2 h3 h4 hP hQ _ _ n1 n2 _ hA hB
    rw [Bm.go_both hx hy h1 h2 h3 h4 n1 n2]
    unfold Bm.mt Bm.cP Bm.cS
    rw [← hP, ← hQ, List.map_append, List.map_append, List.append_assoc, List.append_assoc]
    refine hA.append ?_
    refine List.perm_append_comm.trans (hB.append ?_)
    exact List.Perm.refl _
theorem Bm.go_asc {i j p q : Nat} (hj : j ≤ xs.length) (hq : q ≤ ys.length) : (Bm.go (Bm.cP xs ys) xs ys k i j p q).Pairwise (Bm.R xs ys) ∧ ∀ e ∈ Bm.go (Bm.cP xs ys) xs ys k i j p q, Bm.inn xs ys i j p q e := by
  refine Bm.go_ind (M := fun i j p q L => L.Pairwise (Bm.R xs ys) ∧ ∀ e ∈ L, Bm.inn xs ys i j p q e) hx hy ?_ ?_ ?_ ?_ (j - i + (q - p) + 1) i j p q (by omega) hj hq
  · intro i j p q h; exact ⟨List.Pairwise.nil, fun e he => absurd he (by simp)⟩
  · rintro i j p q L h1 h2 _ _ h ⟨h3, h4⟩
    exact ⟨h3, fun e he => by obtain ⟨u, v, a, b, c, d, f⟩ := h4 e he; exact ⟨u, v, a, by omega, by omega, by omega, by omega⟩⟩
  · rintro i j p q L h1 h2 _ _ h h' ⟨h3, h4⟩
    exact ⟨h3, fun e he => by obtain ⟨u, v, a, b, c, d, f⟩ := h4 e he; exact ⟨u, v, a, by omega, by omega, by omega, by omega⟩⟩
  · rintro i j p q P Q A B h1 h2 h3 h4 hP hQ hP1 hQ1 n1 n2 _ ⟨hA, iA⟩ ⟨hB, iB⟩
    have la1 := Tr.la_nest hx (j - 1) (by omega)
    have lb1 := Tr.la_nest hy (q - 1) (by omega)
    have AX : ∀ e ∈ A, Bm.R xs ys e ((Tr.nd xs (j - 1) : Int), (Tr.nd ys (q - 1) : Int)) := fun e he => by
      obtain ⟨u, v, rfl, a, b, c, d⟩ := iA e he
      have l1 : Tr.la xs (j - 1) = P := by omega
      have l2 : Tr.la ys (q - 1) = Q := by omega
      refine ⟨?_, ?_, ?_⟩
      · have := Tr.nd_ahead hx (u := u) (v := j - 1) (by omega) (by omega)
        show (Tr.nd xs u : Int) < (Tr.nd xs (j - 1) : Int)
        omega
      · have := Tr.nd_ahead hy (u := v) (v := q - 1) (by omega) (by omega)
        show (Tr.nd ys v : Int) < (Tr.nd ys (q - 1) : Int)
        omega
      · exact (Tr.nd_not hx (by omega) (by omega)).trans (Tr.nd_not hy (by omega) (by omega)).symm
    have XB : ∀ e ∈ B, Bm.R xs ys ((Tr.nd xs (j - 1) : Int), (Tr.nd ys (q - 1) : Int)) e := fun e he => by
      obtain ⟨u, v, rfl, a, b, c, d⟩ := iB e he
      refine ⟨?_, ?_, ?_⟩
      · have := (Tr.nd_below hx (u := u) (v := j - 1) (by omega) (by omega) (by omega)).1
        show (Tr.nd xs (j - 1) : Int) < (Tr.nd xs u : Int)
        omega
      · have := (Tr.nd_below hy (u := v) (v := q - 1) (by omega) (by omega) (by omega)).1
        show (Tr.nd ys (q - 1) : Int) < (Tr.nd ys v : Int)
        omega
      · exact (Tr.nd_yes hx (by omega) (by omega) (by omega)).trans (Tr.nd_yes hy (by omega) (by omega) (by omega)).symm
    have AB : ∀ e ∈ A, ∀ e' ∈ B, Bm.R xs ys e e' := fun e he e' he' => by
      obtain ⟨u, v, rfl, a, b, c, d⟩ := iA e he
      obtain ⟨u', v', rfl, a', b', c', d'⟩ := iB e' he'
      have l1 : Tr.la xs (j - 1) = P := by omega
      have l2 : Tr.la ys (q - 1) = Q := by omega
      have m1 := la1.2 u' (by omega) (by omega)
      have m2 := lb1.2 v' (by omega) (by omega)
      refine ⟨?_, ?_, ?_⟩
      · have := Tr.nd_ahead hx (u := u) (v := u') (by omega) (by omega)
        show (Tr.nd xs u : Int) < (Tr.nd xs u' : Int)
        omega
      · have := Tr.nd_ahead hy (u := v) (v := v') (by omega) (by omega)
        show (Tr.nd ys v : Int) < (Tr.nd ys v' : Int)
        omega
      · exact (Tr.nd_not hx (by omega) (by omega)).trans (Tr.nd_not hy (by omega) (by omega)).symm
    unfold Bm.cP
    refine ⟨?_, ?_⟩
    · refine List.pairwise_append.2 ⟨List.pairwise_append.2 ⟨hA, List.pairwise_singleton _ _, fun a ha b hb => ?_⟩, hB, fun a ha b hb => ?_⟩
      · rw [List.mem_singleton.1 hb]; exact AX a ha
      · rcases List.mem_append.1 ha with h | h
        · exact AB a h b hb
        · rw [List.mem_singleton.1 h]; exact XB b hb
    · intro e he
      rcases List.mem_append.1 he with h | h
      · rcases List.mem_append.1 h with h | h
        · obtain ⟨u, v, a, b, c, d, f⟩ := iA e h; exact ⟨u, v, a, by omega, by omega, by omega, by omega⟩
        · rw [List.mem_singleton.1 h]; exact ⟨j - 1, q - 1, rfl, by omega, by omega, by omega, by omega⟩
      · obtain ⟨u, v, a, b, c, d, f⟩ := iB e h; exact ⟨u, v, a, by omega, by omega, by omega, by omega⟩
end

end Go.Proofs.Ytnfjdlocmdgefaa

/- Contracts (Bm3). -/
namespace Go.Proofs.Ytnfjdlocmdgefaa
open Go.RowKit
set_option linter.unusedVariables false

theorem Bm.mt_facts {xs ys : Tr} {k : Co} (hx : Tr.ok xs = true) (hy : Tr.ok ys = true) : (Bm.mt (Bm.cP xs ys) xs ys k 0 xs.length 0 ys.length).Perm ((Bm.mt Bm.cS xs ys k 0 xs.length 0 ys.length).map (Bm.f xs ys)) ∧ (Bm.mt (Bm.cP xs ys) xs ys k 0 xs.length 0 ys.length).Pairwise (Bm.R xs ys) ∧ (∀ e ∈ Bm.mt (Bm.cP xs ys) xs ys k 0 xs.length 0 ys.length, Bm.inn xs ys 0 xs.length 0 ys.length e) ∧
    (Bm.mt (Bm.cP xs ys) xs ys k 0 xs.length 0 ys.length).length ≤ ys.length ∧ (Bm.mt Bm.cS xs ys k 0 xs.length 0 ys.length).length ≤ ys.length ∧ ∃ B, Bm.mt (Bm.cP xs ys) xs ys k 0 xs.length 0 ys.length = (0, 0) :: B ∧ B = Bm.go (Bm.cP xs ys) xs ys k 0 (xs.length - 1) 0 (ys.length - 1) := by
  have x1 := (Tr.len24 hx).1
  have y1 := (Tr.len24 hy).1
  have la0 := Tr.la_last hx
  have lb0 := Tr.la_last hy
  have root : ∀ {zs : Tr}, Tr.ok zs = true → Tr.nd zs (zs.length - 1) = 0 := fun {zs} hz => by
    have z1 := (Tr.len24 hz).1
    have := Tr.nd_rk hz (i := 0) (by omega)
    rw [show Tr.rk zs 0 = zs.length - 1 by unfold Tr.rk; rw [Tr.endN_zero hz, Tr.dn_zero hz]; omega] at this
    exact this
  have e1 : Bm.mt (Bm.cP xs ys) xs ys k 0 xs.length 0 ys.length = [((0 : Int), (0 : Int))] ++ Bm.go (Bm.cP xs ys) xs ys k 0 (xs.length - 1) 0 (ys.length - 1) := by
    unfold Bm.mt
    rw [la0, lb0, show max 0 0 = (0 : Nat) from rfl, Bm.go_none (i := 0) (j := 0) (.inl (Nat.le_refl _))]
    show [] ++ [((Tr.nd xs (xs.length - 1) : Int), (Tr.nd ys (ys.length - 1) : Int))] ++ _ = _
    rw [root hx, root hy]
    rfl
  have e2 : Bm.mt Bm.cS xs ys k 0 xs.length 0 ys.length = Bm.go Bm.cS xs ys k 0 (xs.length - 1) 0 (ys.length - 1) ++ [(((xs.length - 1 : Nat) : Int), ((ys.length - 1 : Nat) : Int))] := by
    unfold Bm.mt
    rw [la0, lb0, show max 0 0 = (0 : Nat) from rfl, Bm.go_none (i := 0) (j := 0) (.inl (Nat.le_refl _))]
    rfl
  have hp := Bm.go_perm (k := k) hx hy (i := 0) (j := xs.length - 1) (p := 0) (q := ys.length - 1) (by omega) (by omega)
  obtain ⟨ha, hin⟩ := Bm.go_asc (k := k) hx hy (i := 0) (j := xs.length - 1) (p := 0) (q := ys.length - 1) (by omega) (by omega)
  have hl : (Bm.go Bm.cS xs ys k 0 (xs.length - 1) 0 (ys.length - 1)).length ≤ ys.length - 1 - 0 := by
    refine Bm.go_ind (M := fun i j p q L => L.length ≤ q - p) hx hy ?_ ?_ ?_ ?_ (xs.length - 1 - 0 + (ys.length - 1 - 0) + 1) 0 (xs.length - 1) 0 (ys.length - 1) (by omega) (by omega) (by omega)
    · intro i j p q _; simp
    · intro i j p q L _ _ _ _ _ h; exact h
    · intro i j p q L _ _ _ _ _ _ h; omega
    · intro i j p q P Q A B _ _ _ _ _ _ _ _ _ _ _ h1 h2
      unfold Bm.cS
      simp only [List.length_append, List.length_singleton]
      omega
  have hl2 : (Bm.go (Bm.cP xs ys) xs ys k 0 (xs.length - 1) 0 (ys.length - 1)).length ≤ ys.length - 1 := by
    have := hp.length_eq
    rw [List.length_map] at this
    omega
  rw [e1, e2]
  refine ⟨?_, ?_, ?_, ?_, ?_, _, rfl, rfl⟩
  · rw [List.map_append]
    refine List.perm_append_comm.trans (hp.append ?_)
    simp [Bm.f, root hx, root hy]
  · refine List.pairwise_append.2 ⟨List.pairwise_singleton _ _, ha, fun a ha' b hb => ?_⟩
    rw [List.mem_singleton.1 ha']
    obtain ⟨u, v, rfl, _, hu, _, hv⟩ := hin b hb
    have b1 := Tr.nd_below hx (u := u) (v := xs.length - 1) (by omega) (by omega) hu
    have b2 := Tr.nd_below hy (u := v) (v := ys.length - 1) (by omega) (by omega) hv
    have c1 := Tr.nd_yes hx (u := u) (v := xs.length - 1) (by omega) (by omega) hu
    have c2 := Tr.nd_yes hy (u := v) (v := ys.length - 1) (by omega) (by omega) hv
    rw [root hx] at b1 c1
    rw [root hy] at b2 c2
    refine ⟨?_, ?_, c1.trans c2.symm⟩
    · show (0 : Int) < (Tr.nd xs u : Int)
      omega
    · show (0 : Int) < (Tr.nd ys v : Int)
      omega
  · intro e he
    rcases List.mem_append.1 he with h | h
    · rw [List.mem_singleton.1 h]
      exact ⟨xs.length - 1, ys.length - 1, by rw [root hx, root hy]; rfl, by omega, by omega, by omega, by omega⟩
    · obtain ⟨u, v, a, b, c, d, f⟩ := hin e h
      exact ⟨u, v, a, by omega, by omega, by omega, by omega⟩
  · rw [List.length_append, List.length_singleton]; omega
  · rw [List.length_append, List.length_singleton]; omega
end Go.Proofs.Ytnfjdlocmdgefaa

/- Contracts (Mc). -/
namespace Go.Proofs.Ytnfjdlocmdgefaa
open Go.RowKit
set_option linter.unusedVariables false

def Mp.sum (f : Nat → Int) : Nat → Int
  | 0 => 0
  | n + 1 => Mp.sum f n + f n
theorem Mp.sum_congr {f g : Nat → Int} : ∀ {n : Nat}, (∀ i, i < n → f i = g i) → Mp.sum f n = Mp.sum g n
  | 0, _ => rfl
  | n + 1, h => by
    show Mp.sum f n + f n = Mp.sum g n + g n
    rw [Mp.sum_congr (fun i hi => h i (by omega)), h n (by omega)]
theorem Mp.sum_bound {f : Nat → Int} (h : ∀ i, 0 ≤ f i ∧ f i ≤ 1000) : ∀ n : Nat, 0 ≤ Mp.sum f n ∧ Mp.sum f n ≤ 1000 * n
  | 0 => by simp [Mp.sum]
  | n + 1 => by
    have h1 := Mp.sum_bound h n
    have h2 := h n
    show 0 ≤ Mp.sum f n + f n ∧ Mp.sum f n + f n ≤ 1000 * ((n + 1 : Nat) : Int)
    omega
theorem Mp.sum_change {f g : Nat → Int} {p : Nat} (h : ∀ i, i ≠ p → g i = f i) : ∀ {n : Nat}, p < n → Mp.sum g n = Mp.sum f n + (g p - f p)
  | 0, hp => absurd hp (Nat.not_lt_zero p)
  | n + 1, hp => by
    show Mp.sum g n + g n = Mp.sum f n + f n + (g p - f p)
    by_cases e : p = n
    · subst e
      rw [Mp.sum_congr (f := g) (g := f) (fun i hi => h i (by omega))]
      omega
    · rw [Mp.sum_change h (show p < n by omega), h n (by omega)]
      omega
theorem Mp.l_take {ms : Tr} {m q : Nat} (h : q < m) : Tr.l (ms.take m) q = Tr.l ms q := by
  unfold Tr.l
  rw [show (ms.take m).getD q (0, 0) = ms.getD q (0, 0) by simp [List.getD_eq_getElem?_getD, h]]
theorem Mp.d_take {ms : Tr} {m q : Nat} (h : q < m) : Tr.d (ms.take m) q = Tr.d ms q := by
  unfold Tr.d
  rw [show (ms.take m).getD q (0, 0) = ms.getD q (0, 0) by simp [List.getD_eq_getElem?_getD, h]]
def Mp.of : Tr → Int → Int
  | [], _ => -1
  | p :: r, i => if p.1 = i then p.2 else Mp.of r i
theorem Mp.of_cases : ∀ (ms : Tr) (i : Int), (Mp.of ms i = -1 ∧ ∀ q, q < ms.length → Tr.l ms q ≠ i) ∨ ∃ q, q < ms.length ∧ Tr.l ms q = i ∧ Mp.of ms i = Tr.d ms q ∧ ∀ r, r < q → Tr.l ms r ≠ i
  | [], i => Or.inl ⟨rfl, fun q hq => absurd hq (Nat.not_lt_zero q)⟩
  | p :: t, i => by
    by_cases e : p.1 = i
    · exact Or.inr ⟨0, Nat.zero_lt_succ _, e, by unfold Mp.of; rw [if_pos e]; rfl, fun r hr => absurd hr (Nat.not_lt_zero r)⟩
    · have hs : Mp.of (p :: t) i = Mp.of t i := by rw [Mp.of, if_neg e]
      rcases Mp.of_cases t i with ⟨h1, h2⟩ | ⟨q, h1, h2, h3, h4⟩
      · refine Or.inl ⟨hs.trans h1, fun q hq => ?_⟩
        cases q with
        | zero => exact e
        | succ q => exact h2 q (by simpa using hq)
      · refine Or.inr ⟨q + 1, by simpa using h1, h2, hs.trans h3, fun r hr => ?_⟩
        cases r with
        | zero => exact e
        | succ r => exact h4 r (by omega)
theorem Mp.of_hit {ms : Tr} {i : Int} {k : Nat} (hk : k < ms.length) (he : Tr.l ms k = i) (h : ∀ q, q < k → Tr.l ms q ≠ i) : Mp.of ms i = Tr.d ms k := by
  rcases Mp.of_cases ms i with ⟨_, h2⟩ | ⟨q, h1, h2, h3, h4⟩
  · exact absurd he (h2 k hk)
  · have : q = k := by
      rcases Nat.lt_trichotomy q k with c | c | c
      · exact absurd h2 (h q c)
      · exact c
      · exact absurd he (h4 k c)
    rw [h3, this]
theorem Mp.of_none {ms : Tr} {i : Int} (h : ∀ q, q < ms.length → Tr.l ms q ≠ i) : Mp.of ms i = -1 := by
  rcases Mp.of_cases ms i with ⟨h1, _⟩ | ⟨q, h1, h2, _⟩
  · exact h1
  · exact absurd h2 (h q h1)
theorem Mp.of_skip {ms : Tr} {i : Int} {m : Nat} (hm : m < ms.length) (he : Tr.l ms m ≠ i) : Mp.of (ms.take (m + 1)) i = Mp.of (ms.take m) i := by
  have l1 : (ms.take m).length = m := by rw [List.length_take]; omega
  have l2 : (ms.take (m + 1)).length = m + 1 := by rw [List.length_take]; omega
  rcases Mp.of_cases (ms.take m) i with ⟨h1, h2⟩ | ⟨q, h1, h2, h3, h4⟩
  · rw [h1]
    refine Mp.of_none (fun q hq => ?_)
    rw [l2] at hq
    rw [Mp.l_take hq] at *
    rcases Nat.lt_succ_iff_lt_or_eq.1 hq with c | rfl
    · have := h2 q (by omega); rw [Mp.l_take c] at this; exact this
    · exact he
  · rw [l1] at h1
    rw [h3]
    rw [Mp.l_take h1] at h2
    rw [Mp.d_take h1, Mp.of_hit (k := q) (by omega) (by rw [Mp.l_take (show q < m + 1 by omega)]; exact h2) (fun r hr => by
      have := h4 r hr; rw [Mp.l_take (show r < m by omega)] at this; rw [Mp.l_take (show r < m + 1 by omega)]; exact this), Mp.d_take (show q < m + 1 by omega)]
theorem Mp.of_new {ms : Tr} {m : Nat} (hm : m < ms.length) (h : ∀ q, q < m → Tr.l ms q ≠ Tr.l ms m) : Mp.of (ms.take m) (Tr.l ms m) = -1 ∧ Mp.of (ms.take (m + 1)) (Tr.l ms m) = Tr.d ms m := by
  have l1 : (ms.take m).length = m := by rw [List.length_take]; omega
  have l2 : (ms.take (m + 1)).length = m + 1 := by rw [List.length_take]; omega
  refine ⟨Mp.of_none (fun q hq => ?_), ?_⟩
  · rw [l1] at hq; rw [Mp.l_take hq]; exact h q hq
  · rw [Mp.of_hit (k := m) (by rw [l2]; omega) (Mp.l_take (Nat.lt_add_one m)) (fun r hr => by rw [Mp.l_take (show r < m + 1 by omega)]; exact h r hr), Mp.d_take (Nat.lt_add_one m)]
def Mp.back : Tr → Int → Int
  | [], _ => -1
  | p :: r, i => if p.2 = i then p.1 else Mp.back r i
theorem Mp.back_cases : ∀ (ms : Tr) (i : Int), (Mp.back ms i = -1 ∧ ∀ q, q < ms.length → Tr.d ms q ≠ i) ∨ ∃ q, q < ms.length ∧ Tr.d ms q = i ∧ Mp.back ms i = Tr.l ms q ∧ ∀ r, r < q → Tr.d ms r ≠ i
  | [], i => Or.inl ⟨rfl, fun q hq => absurd hq (Nat.not_lt_zero q)⟩
  | p :: t, i => by
    by_cases e : p.2 = i
    · exact Or.inr ⟨0, Nat.zero_lt_succ _, e, by unfold Mp.back; rw [if_pos e]; rfl, fun r hr => absurd hr (Nat.not_lt_zero r)⟩
    · have hs : Mp.back (p :: t) i = Mp.back t i := by rw [Mp.back, if_neg e]
      rcases Mp.back_cases t i with ⟨h1, h2⟩ | ⟨q, h1, h2, h3, h4⟩
      · refine Or.inl ⟨hs.trans h1, fun q hq => ?_⟩
        cases q with
        | zero => exact e
        | succ q => exact h2 q (by simpa using hq)
      · refine Or.inr ⟨q + 1, by simpa using h1, h2, hs.trans h3, fun r hr => ?_⟩
        cases r with
        | zero => exact e
        | succ r => exact h4 r (by omega)
theorem Mp.back_hit {ms : Tr} {i : Int} {k : Nat} (hk : k < ms.length) (he : Tr.d ms k = i) (h : ∀ q, q < k → Tr.d ms q ≠ i) : Mp.back ms i = Tr.l ms k := by
  rcases Mp.back_cases ms i with ⟨_, h2⟩ | ⟨q, h1, h2, h3, h4⟩
  · exact absurd he (h2 k hk)
  · have : q = k := by
      rcases Nat.lt_trichotomy q k with c | c | c
      · exact absurd h2 (h q c)
      · exact c
      · exact absurd he (h4 k c)
    rw [h3, this]
theorem Mp.back_none {ms : Tr} {i : Int} (h : ∀ q, q < ms.length → Tr.d ms q ≠ i) : Mp.back ms i = -1 := by
  rcases Mp.back_cases ms i with ⟨h1, _⟩ | ⟨q, h1, h2, _⟩
  · exact h1
  · exact absurd h2 (h q h1)
theorem Mp.back_skip {ms : Tr} {i : Int} {m : Nat} (hm : m < ms.length) (he : Tr.d ms m ≠ i) : Mp.back (ms.take (m + 1)) i = Mp.back (ms.take m) i := by
  have l1 : (ms.take m).length = m := by rw [List.length_take]; omega
  have l2 : (ms.take (m + 1)).length = m + 1 := by rw [List.length_take]; omega
  rcases Mp.back_cases (ms.take m) i with ⟨h1, h2⟩ | ⟨q, h1, h2, h3, h4⟩
  · rw [h1]
    refine Mp.back_none (fun q hq => ?_)
    rw [l2] at hq
    rw [Mp.d_take hq] at *
    rcases Nat.lt_succ_iff_lt_or_eq.1 hq with c | rfl
    · have := h2 q (by omega); rw [Mp.d_take c] at this; exact this
    · exact he
  · rw [l1] at h1
    rw [h3]
    rw [Mp.d_take h1] at h2
    rw [Mp.l_take h1, Mp.back_hit (k := q) (by omega) (by rw [Mp.d_take (show q < m + 1 by omega)]; exact h2) (fun r hr => by
      have := h4 r hr; rw [Mp.d_take (show r < m by omega)] at this; rw [Mp.d_take (show r < m + 1 by omega)]; exact this), Mp.l_take (show q < m + 1 by omega)]
theorem Mp.back_new {ms : Tr} {m : Nat} (hm : m < ms.length) (h : ∀ q, q < m → Tr.d ms q ≠ Tr.d ms m) : Mp.back (ms.take m) (Tr.d ms m) = -1 ∧ Mp.back (ms.take (m + 1)) (Tr.d ms m) = Tr.l ms m := by
  have l1 : (ms.take m).length = m := by rw [List.length_take]; omega
  have l2 : (ms.take (m + 1)).length = m + 1 := by rw [List.length_take]; omega
  refine ⟨Mp.back_none (fun q hq => ?_), ?_⟩
  · rw [l1] at hq; rw [Mp.d_take hq]; exact h q hq
  · rw [Mp.back_hit (k := m) (by rw [l2]; omega) (Mp.d_take (Nat.lt_add_one m)) (fun r hr => by rw [Mp.d_take (show r < m + 1 by omega)]; exact h r hr), Mp.l_take (Nat.lt_add_one m)]
def Mp.gx (xs ys : Tr) (k : Co) (ms : Tr) (i : Nat) : Int := if Mp.of ms i < 0 then Co.del k (Tr.l xs i) else Co.rel k (Tr.l xs i) (Tr.l ys (Mp.of ms i).toNat)
def Mp.gy (ys : Tr) (k : Co) (ms : Tr) (j : Nat) : Int := if Mp.back ms j < 0 then Co.ins k (Tr.l ys j) else 0
/-- the cost of a mapping's first m pairs -/
def Mp.part (xs ys : Tr) (k : Co) (ms : Tr) (m : Nat) : Int := Mp.sum (Mp.gx xs ys k (ms.take m)) xs.length + Mp.sum (Mp.gy ys k (ms.take m)) ys.length
def Mp.cost (xs ys : Tr) (k : Co) (ms : Tr) : Int := if Mp.ok xs ys ms && Co.ok k then Mp.part xs ys k ms ms.length else -1
section
variable {xs ys ms : Tr} {k : Co}
theorem Mp.gx_bound (i : Nat) : 0 ≤ Mp.gx xs ys k ms i ∧ Mp.gx xs ys k ms i ≤ 1000 := by
  unfold Mp.gx
  split
  · exact (Co.nonneg' k).1 _
  · exact (Co.nonneg' k).2.2 _ _
theorem Mp.gy_bound (i : Nat) : 0 ≤ Mp.gy ys k ms i ∧ Mp.gy ys k ms i ≤ 1000 := by
  unfold Mp.gy
  split
  · exact (Co.nonneg' k).2.1 _
  · omega
theorem Mp.part_bound (hx : xs.length ≤ 24) (hy : ys.length ≤ 24) (m : Nat) : 0 ≤ Mp.part xs ys k ms m ∧ Mp.part xs ys k ms m ≤ 48000 := by
  have h1 := Mp.sum_bound (f := Mp.gx xs ys k (ms.take m)) Mp.gx_bound xs.length
  have h2 := Mp.sum_bound (f := Mp.gy ys k (ms.take m)) Mp.gy_bound ys.length
  unfold Mp.part
  omega
theorem Mp.part_zero : Mp.part xs ys k ms 0 = Mp.sum (fun i => Co.del k (Tr.l xs i)) xs.length + Mp.sum (fun j => Co.ins k (Tr.l ys j)) ys.length := by
  unfold Mp.part
  rfl
theorem Mp.part_succ {m a b : Nat} (hm : m < ms.length) (h : Mp.okAt xs ys ms m = true) (ha : Tr.l ms m = (a : Int)) (hb : Tr.d ms m = (b : Int)) :
    Mp.part xs ys k ms (m + 1) = Mp.part xs ys k ms m + (Co.rel k (Tr.l xs a) (Tr.l ys b) - Co.del k (Tr.l xs a) - Co.ins k (Tr.l ys b)) := by
  obtain ⟨h1, h2, h3⟩ := Mp.okAt_parts h
  simp only [Tr.has, Bool.and_eq_true, decide_eq_true_eq] at h1 h2
  have n1 := Mp.of_new hm (fun q hq => by have := (h3 q hq).1; omega)
  have n2 := Mp.back_new hm (fun q hq => by have := (h3 q hq).2.1; omega)
  have e1 : Mp.sum (Mp.gx xs ys k (ms.take (m + 1))) xs.length = Mp.sum (Mp.gx xs ys k (ms.take m)) xs.length + (Mp.gx xs ys k (ms.take (m + 1)) a - Mp.gx xs ys k (ms.take m) a) := by
    refine Mp.sum_change (fun i hi => ?_) (by omega)
    unfold Mp.gx
    rw [Mp.of_skip hm (by omega)]
  have e2 : Mp.sum (Mp.gy ys k (ms.take (m + 1))) ys.length = Mp.sum (Mp.gy ys k (ms.take m)) ys.length + (Mp.gy ys k (ms.take (m + 1)) b - Mp.gy ys k (ms.take m) b) := by
    refine Mp.sum_change (fun i hi => ?_) (by omega)
    unfold Mp.gy
    rw [Mp.back_skip hm (by omega)]
  rw [ha, hb] at n1
  rw [hb, ha] at n2
  have g1 : Mp.gx xs ys k (ms.take m) a = Co.del k (Tr.l xs a) := by unfold Mp.gx; rw [n1.1, if_pos (by omega)]
  have g2 : Mp.gx xs ys k (ms.take (m + 1)) a = Co.rel k (Tr.l xs a) (Tr.l ys b) := by unfold Mp.gx; rw [n1.2, if_neg (by omega)]; rfl
  have g3 : Mp.gy ys k (ms.take m) b = Co.ins k (Tr.l ys b) := by unfold Mp.gy; rw [n2.1, if_pos (by omega)]
  have g4 : Mp.gy ys k (ms.take (m + 1)) b = 0 := by unfold Mp.gy; rw [n2.2, if_neg (by omega)]
  unfold Mp.part
  rw [e1, e2, g1, g2, g3, g4]
  omega
theorem Mp.ok_all (h : Mp.ok xs ys ms = true) : Tr.ok xs = true ∧ Tr.ok ys = true ∧ ∀ q, q < ms.length → Mp.okAt xs ys ms q = true := by
  simp only [Mp.ok, Bool.and_eq_true] at h
  exact ⟨h.1.1, h.1.2, Mp.all_iff.1 h.2⟩
theorem Mp.pair_at {q : Nat} (h : Mp.okAt xs ys ms q = true) : ∃ a b : Nat, a < xs.length ∧ b < ys.length ∧ Tr.l ms q = (a : Int) ∧ Tr.d ms q = (b : Int) := by
  obtain ⟨h1, h2, _⟩ := Mp.okAt_parts h
  simp only [Tr.has, Bool.and_eq_true, decide_eq_true_eq] at h1 h2
  exact ⟨(Tr.l ms q).toNat, (Tr.d ms q).toNat, by omega, by omega, by omega, by omega⟩
/-- a node's partner -/
theorem Mp.of_at (h : Mp.ok xs ys ms = true) (i : Nat) : (Mp.of ms i = -1 ∧ Mp.gx xs ys k ms i = Co.del k (Tr.l xs i)) ∨ ∃ b : Nat, b < ys.length ∧ Mp.of ms i = (b : Int) ∧ Mp.gx xs ys k ms i = Co.rel k (Tr.l xs i) (Tr.l ys b) := by
  rcases Mp.of_cases ms i with ⟨h1, _⟩ | ⟨q, h1, h2, h3, _⟩
  · exact Or.inl ⟨h1, by unfold Mp.gx; rw [h1, if_pos (by omega)]⟩
  · obtain ⟨a, b, _, hb, _, hd⟩ := Mp.pair_at ((Mp.ok_all h).2.2 q h1)
    refine Or.inr ⟨b, hb, h3.trans hd, ?_⟩
    unfold Mp.gx
    rw [h3, hd, if_neg (by omega)]
    rfl
theorem Mp.back_at (h : Mp.ok xs ys ms = true) (j : Nat) : (Mp.back ms j = -1 ∧ Mp.gy ys k ms j = Co.ins k (Tr.l ys j)) ∨ ∃ a : Nat, Mp.back ms j = (a : Int) ∧ Mp.gy ys k ms j = 0 := by
  rcases Mp.back_cases ms j with ⟨h1, _⟩ | ⟨q, h1, h2, h3, _⟩
  · exact Or.inl ⟨h1, by unfold Mp.gy; rw [h1, if_pos (by omega)]⟩
  · obtain ⟨a, b, _, _, ha, _⟩ := Mp.pair_at ((Mp.ok_all h).2.2 q h1)
    exact Or.inr ⟨a, h3.trans ha, by unfold Mp.gy; rw [h3, ha, if_neg (by omega)]⟩
theorem Mp.part_all : Mp.part xs ys k ms ms.length = Mp.sum (Mp.gx xs ys k ms) xs.length + Mp.sum (Mp.gy ys k ms) ys.length := by
  unfold Mp.part
  rw [List.take_length]
end

end Go.Proofs.Ytnfjdlocmdgefaa
