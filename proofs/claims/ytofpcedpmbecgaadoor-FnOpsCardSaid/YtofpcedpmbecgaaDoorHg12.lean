/- Texts of one claim laid into one file, in build order: AllS, TblI, CostOkI. -/
import Derived.Test.YtofpcedpmbecgaaDoorHg1
import Derived.Test.YtofpcedpmbecgaaDoorHg11
import Derived.Test.YtofpcedpmbecgaaDoorHg2
import Derived.Test.YtofpcedpmbecgaaDoorHg4
import Derived.Test.YtofpcedpmbecgaaDoorHg5
import Derived.Test.YtofpcedpmbecgaaDoorHg6
import Derived.Test.YtofpcedpmbecgaaDoorHg7
import Derived.Test.YtofpcedpmbecgaaDoorHg8
import Derived.BigQuiet
import Derived.Deep.CutRange
import Derived.Deep.QuietTactic
import Derived.Deep.RegionHeld3
import Derived.Outline
import Derived.StillTailTactics
import Derived.Test.YtofpcedpmbecgaaDoorRows
/- Contracts (AllS). -/
namespace Go.Proofs.YtofpcedpmbecgaaDoor
open Go.RowKit
set_option linter.unusedVariables false

theorem RowOff.inn {w : World} {B gt n : Nat} {ad : Addr} {zs : List Int} (h : IntIn w B (some ad) n zs) (hn : 0 < n) (hB : B ≤ gt) (hs : B ≤ w.heap.size) : RowOff w gt gt ad n zs := by
  obtain ⟨a, e, hl⟩ := h.2.1 hn
  injection e with e
  subst e
  exact ⟨h.1, by omega, by omega, by omega, fun k hk => h.here hk⟩
/-- what l8All holds ahead of its four rows -/
structure AlG (A A' : Option Addr) (n n' nm : Nat) (xs ys : Tr) (K0 K1 K2 : Option Addr) (c0 c1 c2 : Nat) (k : Co) (T : List Int) (w wq : World) : Prop where
  a : NdIn wq w.heap.size A n xs
  b : NdIn wq w.heap.size A' n' ys
  k : CoIn wq w.heap.size K0 K1 K2 6 6 36 k
  bl : Below w.heap.size w wq
  q : Box3 wq w.heap.size (.slice K0 6 c0) (.slice K1 6 c1) (.slice K2 36 c2)
  t : wq.ownsRow w.heap.size 3 1 (.slice (some ⟨w.heap.size + 1, 0, none⟩) nm nm) nm (ints T)
  lt : w.heap.size + 2 ≤ wq.heap.size
section
variable {A A' : Option Addr} {n n' nm : Nat} {xs ys : Tr} {K0 K1 K2 : Option Addr} {c0 c1 c2 : Nat} {k : Co} {T : List Int} {w wx wq : World}
theorem AlG.keep (h : AlG A A' n n' nm xs ys K0 K1 K2 c0 c1 c2 k T w wx) (hb : Below wx.heap.size wx wq) : AlG A A' n n' nm xs ys K0 K1 K2 c0 c1 c2 k T w wq := by
  have hl := h.lt
  have hb' := hb.mono (B' := w.heap.size) (by omega)
  exact ⟨h.a.below hb', h.b.below hb', h.k.below hb', h.bl.trans hb', h.q.below hb (by omega), own_below h.t hb, Nat.le_trans hl hb.size⟩
theorem AlG.alloc (h : AlG A A' n n' nm xs ys K0 K1 K2 c0 c1 c2 k T w wx) (o : Obj) : AlG A A' n n' nm xs ys K0 K1 K2 c0 c1 c2 k T w (wx.alloc o) := h.keep ((Below.refl _ _).alloc (Nat.le_refl _) _)
theorem AlG.drew (h : AlG A A' n n' nm xs ys K0 K1 K2 c0 c1 c2 k T w wx) : AlG A A' n n' nm xs ys K0 K1 K2 c0 c1 c2 k T w wx.drew := h.keep (Drawn.refl _).drew.toBelow
theorem AlG.set (h : AlG A A' n n' nm xs ys K0 K1 K2 c0 c1 c2 k T w wx) {g : Nat} (hg : w.heap.size + 2 ≤ g) (o : Nat) (v : Value) : AlG A A' n n' nm xs ys K0 K1 K2 c0 c1 c2 k T w (wx.setCell ⟨g, o, none⟩ v) := by
  have hb : Below (w.heap.size + 2) wx (wx.setCell ⟨g, o, none⟩ v) := (Below.refl _ _).setCell hg _
  have hb' := hb.mono (B' := w.heap.size) (by omega)
  exact ⟨h.a.below hb', h.b.below hb', h.k.below hb', h.bl.trans hb', h.q.below hb (by omega), h.t.kept (Kit.grown_set _ _ _ _) (.inr fun e => absurd (show w.heap.size + 1 = g by injection e) (by omega)), by simp; exact h.lt⟩
theorem AlG.r0 {k0 k1 k2 : Addr} (h : AlG A A' n n' nm xs ys (some k0) (some k1) (some k2) c0 c1 c2 k T w wx) : RowOff wx (w.heap.size + 1) (w.heap.size + 1) k0 6 k.d := RowOff.inn h.k.1 (by omega) (by omega) h.bl.size
theorem AlG.r1 {k0 k1 k2 : Addr} (h : AlG A A' n n' nm xs ys (some k0) (some k1) (some k2) c0 c1 c2 k T w wx) : RowOff wx (w.heap.size + 1) (w.heap.size + 1) k1 6 k.i := RowOff.inn h.k.2.1 (by omega) (by omega) h.bl.size
theorem AlG.r2 {k0 k1 k2 : Addr} (h : AlG A A' n n' nm xs ys (some k0) (some k1) (some k2) c0 c1 c2 k T w wx) : RowOff wx (w.heap.size + 1) (w.heap.size + 1) k2 36 k.r := RowOff.inn h.k.2.2 (by omega) (by omega) h.bl.size
theorem AlG.step {T' : List Int} (h : AlG A A' n n' nm xs ys K0 K1 K2 c0 c1 c2 k T w wx) (hc : ∀ p : Addr, p.block < wx.heap.size → p.block ≠ w.heap.size + 1 → wq.cell? p = wx.cell? p) (hb : Below w.heap.size wx wq) (ht : wq.ownsRow w.heap.size 3 1 (.slice (some ⟨w.heap.size + 1, 0, none⟩) nm nm) nm (ints T')) : AlG A A' n n' nm xs ys K0 K1 K2 c0 c1 c2 k T' w wq := by
  have hl := h.lt
  have hq : ∀ i, wq.cell? ⟨w.heap.size, i, none⟩ = wx.cell? ⟨w.heap.size, i, none⟩ := fun i => hc _ (by show w.heap.size < _; omega) (by show w.heap.size ≠ _; omega)
  exact ⟨h.a.below hb, h.b.below hb, h.k.below hb, h.bl.trans hb, ⟨(hq 0).trans h.q.1, (hq 1).trans h.q.2.1, (hq 2).trans h.q.2.2⟩, ht, Nat.le_trans hl hb.size⟩
end
/-- t, its four rows, and what stood ahead -/
structure AlR (A A' : Option Addr) (n n' nm : Nat) (xs ys : Tr) (k0 k1 k2 : Addr) (c0 c1 c2 : Nat) (k : Co) (T : List Int) (g ax ay la lb cx cy dx dy : Nat) (w wq : World) : Prop where
  al : AlG A A' n n' nm xs ys (some k0) (some k1) (some k2) c0 c1 c2 k T w wq
  gl : w.heap.size + 2 ≤ g
  gs : g < wq.heap.size
  t0 : wq.cell? ⟨g, 0, none⟩ = some (.slice (some ⟨ax, 0, none⟩) n cx)
  t1 : wq.cell? ⟨g, 1, none⟩ = some (.slice (some ⟨ay, 0, none⟩) n' cy)
  t2 : wq.cell? ⟨g, 2, none⟩ = some (.slice (some ⟨la, 0, none⟩) n dx)
  t3 : wq.cell? ⟨g, 3, none⟩ = some (.slice (some ⟨lb, 0, none⟩) n' dy)
  t4 : wq.cell? ⟨g, 4, none⟩ = some (.slice (some k0) 6 c0)
  t5 : wq.cell? ⟨g, 5, none⟩ = some (.slice (some k1) 6 c1)
  t6 : wq.cell? ⟨g, 6, none⟩ = some (.slice (some k2) 36 c2)
  rx : RowOff wq (w.heap.size + 1) (w.heap.size + 1) ⟨ax, 0, none⟩ n (Tr.lab xs)
  ry : RowOff wq (w.heap.size + 1) (w.heap.size + 1) ⟨ay, 0, none⟩ n' (Tr.lab ys)
  ra : RowOff wq (w.heap.size + 1) (w.heap.size + 1) ⟨la, 0, none⟩ n (Zs.up (Tr.lfs xs))
  rb : RowOff wq (w.heap.size + 1) (w.heap.size + 1) ⟨lb, 0, none⟩ n' (Zs.up (Tr.lfs ys))
/-- a row made in w1 as it stands in wq -/
theorem RowOff.seen {w1 wq : World} {base g n c gt : Nat} {zs : List Int} (h : w1.ownsRow base 3 1 (.slice (some ⟨g, 0, none⟩) n c) n (ints zs)) (hc : ∀ o, wq.cell? ⟨g, o, none⟩ = w1.cell? ⟨g, o, none⟩) (hl : g < wq.heap.size) (hn : g ≠ gt) : RowOff wq gt gt ⟨g, 0, none⟩ n zs := by
  have hlen : zs.length = n := by have := h.1; rw [ints_length] at this; omega
  refine ⟨hlen, hl, hn, hn, fun k hk => ?_⟩
  have := h.cells rfl k _ (ints_at zs k (by omega))
  have e : (⟨g, 0, none⟩ : Addr).add k = ⟨g, k, none⟩ := by unfold Addr.add; split <;> simp_all
  rw [e] at this ⊢
  rw [hc k]
  exact this
section
variable {A A' : Option Addr} {n n' nm : Nat} {xs ys : Tr} {k0 k1 k2 : Addr} {c0 c1 c2 : Nat} {k : Co} {T T' : List Int} {g ax ay la lb cx cy dx dy : Nat} {w wx wq : World}
theorem AlR.keep (h : AlR A A' n n' nm xs ys k0 k1 k2 c0 c1 c2 k T g ax ay la lb cx cy dx dy w wx) (hb : Below wx.heap.size wx wq) : AlR A A' n n' nm xs ys k0 k1 k2 c0 c1 c2 k T g ax ay la lb cx cy dx dy w wq := by
  have c : ∀ i, wq.cell? ⟨g, i, none⟩ = wx.cell? ⟨g, i, none⟩ := fun i => hb.cell (p := ⟨g, i, none⟩) h.gs
  have r {ad : Addr} {m : Nat} {zs : List Int} (q : RowOff wx (w.heap.size + 1) (w.heap.size + 1) ad m zs) := q.keep hb.size (fun p hp _ _ => hb.cell hp)
  exact ⟨h.al.keep hb, h.gl, Nat.lt_of_lt_of_le h.gs hb.size, (c 0).trans h.t0, (c 1).trans h.t1, (c 2).trans h.t2, (c 3).trans h.t3, (c 4).trans h.t4, (c 5).trans h.t5, (c 6).trans h.t6, r h.rx, r h.ry, r h.ra, r h.rb⟩
theorem AlR.step (h : AlR A A' n n' nm xs ys k0 k1 k2 c0 c1 c2 k T g ax ay la lb cx cy dx dy w wx) (hc : ∀ p : Addr, p.block < wx.heap.size → p.block ≠ w.heap.size + 1 → wq.cell? p = wx.cell? p) (hb : Below w.heap.size wx wq) (ht : wq.ownsRow w.heap.size 3 1 (.slice (some ⟨w.heap.size + 1, 0, none⟩) nm nm) nm (ints T')) : AlR A A' n n' nm xs ys k0 k1 k2 c0 c1 c2 k T' g ax ay la lb cx cy dx dy w wq := by
  have gl := h.gl
  have c : ∀ i, wq.cell? ⟨g, i, none⟩ = wx.cell? ⟨g, i, none⟩ := fun i => hc ⟨g, i, none⟩ h.gs (by show g ≠ _; omega)
  have r {ad : Addr} {m : Nat} {zs : List Int} (q : RowOff wx (w.heap.size + 1) (w.heap.size + 1) ad m zs) := q.keep hb.size (fun p hp h1 _ => hc p hp h1)
  exact ⟨h.al.step hc hb ht, h.gl, Nat.lt_of_lt_of_le h.gs hb.size, (c 0).trans h.t0, (c 1).trans h.t1, (c 2).trans h.t2, (c 3).trans h.t3, (c 4).trans h.t4, (c 5).trans h.t5, (c 6).trans h.t6, r h.rx, r h.ry, r h.ra, r h.rb⟩
end
/-- the last table of forests, that of the roots -/
def AllLast (xs ys : Tr) (k : Co) (base : Nat) (lv : Value) (wq : World) : Prop :=
  ∃ (hf : Nat) (f : List Int), lv = .slice (some ⟨hf, 0, none⟩) ((xs.length + 1) * (ys.length + 1)) ((xs.length + 1) * (ys.length + 1)) ∧ wq.ownsRow base 3 1 (.slice (some ⟨hf, 0, none⟩) ((xs.length + 1) * (ys.length + 1)) ((xs.length + 1) * (ys.length + 1))) ((xs.length + 1) * (ys.length + 1)) (ints f) ∧
    ∀ a b, a ≤ xs.length → b ≤ ys.length → Zs.at f (a * (ys.length + 1) + b) = RR xs ys k 0 a 0 b
theorem AllLast.of {xs ys : Tr} {k : Co} {base kk ll ki kj hf nf y : Nat} {f T0 T : List Int} {wq : World} (hx : Tr.ok xs = true) (hy : Tr.ok ys = true) (hk : kk + 1 = (Tr.krs xs).length) (hl : ll + 1 = (Tr.krs ys).length) (hi : ki = Tr.kr xs kk) (hj : kj = Tr.kr ys ll)
    (hF : Fill xs ys k ki kj (ki + 1) y (fun a b => Zs.at f (ix (Tr.la xs ki) (Tr.la ys kj) (kj - Tr.la ys kj + 2) a b)) T0 T) (hnf : nf = (ki - Tr.la xs ki + 2) * (kj - Tr.la ys kj + 2))
    (ho : wq.ownsRow base 3 1 (.slice (some ⟨hf, 0, none⟩) nf nf) nf (ints f)) : AllLast xs ys k base (.slice (some ⟨hf, 0, none⟩) nf nf) wq := by
  have n1 := (Tr.len24 hx).1
  have n2 := (Tr.len24 hy).1
  rw [hi, hj] at hF
  have h := fill_last hx hy hk hl hF
  have e1 := Tr.kr_end hx hk
  have e2 := Tr.kr_end hy hl
  rw [hi, hj, e1, e2, Tr.la_last hx, Tr.la_last hy, show xs.length - 1 - 0 + 2 = xs.length + 1 by omega, show ys.length - 1 - 0 + 2 = ys.length + 1 by omega] at hnf
  rw [e1, e2, Tr.la_last hx, Tr.la_last hy, show ys.length - 1 - 0 + 2 = ys.length + 1 by omega] at h
  subst hnf
  exact ⟨hf, f, rfl, ho, fun a b ha hb => by have := h a b ha hb; exact this⟩
end Go.Proofs.YtofpcedpmbecgaaDoor

/- Contracts (TblI). -/
namespace Go.Proofs.YtofpcedpmbecgaaDoor
open Go.RowKit
set_option linter.unusedVariables false

set_option maxHeartbeats 1600000 in
set_option maxRecDepth 100000 in
theorem tableOk_any (A : Option Addr) (n c : Nat) (zs : List Int) (m : Nat) (w : World) (h : IntIn w w.heap.size A n zs) (hn : n ≤ 1048576) (hm : m ≤ 1000) :
    Calls Tryd.prog 67 #[.slice A n c, .int .i64 m] w fun e w' => e = .returned (.bool (Zs.fit zs m)) ∧ w = w' := by
  have H := Lib.hid h
  have HL := Lib.hid h.1
  clear h
  by_cases hnm : n = m
  · subst hnm
    have q0 : ((n : Int) != (n : Int)) = false := by simp
    go_enter Tryd.func67, Tryd.ntmps67
    go_wp2
    go_loop [13] (fun iv => ∃ k : Nat, k ≤ n ∧ iv = .int .i64 k ∧ Zs.inTo zs k) (fun i => n - (intOf i).toNat)
    case atStart => exact ⟨0, Nat.zero_le _, rfl, fun j hj => absurd hj (Nat.not_lt_zero j)⟩
    case round =>
      obtain ⟨k, hk, rfl, hin⟩ := hrel
      have HI := Lib.hid hin
      clear hin
      by_cases hlt : k < n
      · obtain ⟨ad, rfl, _, c1⟩ := H.out.at_ hlt
        obtain ⟨z, hz⟩ : ∃ z, z = Zs.at zs k := ⟨_, rfl⟩
        rw [← hz] at c1
        have HZ := Lib.hid hz
        clear hz
        have k0 : (0 : Int) ≤ (k : Int) := by omega
        have k1 : (k : Int) < (n : Int) := by omega
        by_cases hq0 : z < 0
        · have q : decide (z < 0) = true := by simpa using hq0
          have Hf := Lib.hid (Zs.fit_not (zs := zs) (k := k) (n := n) (by rw [HL.out]; exact hlt) (by rw [← HZ.out]; omega))
          clear hq0
          go_wp2
          go_ret
          exact ⟨Kit.ret_bool Hf.out.symm, rfl⟩
        · by_cases hq1 : 1000 < z
          · have q : decide (z < 0) = false := by simpa using hq0
            have q' : decide (1000 < z) = true := by simpa using hq1
            have Hf := Lib.hid (Zs.fit_not (zs := zs) (k := k) (n := n) (by rw [HL.out]; exact hlt) (by rw [← HZ.out]; omega))
            clear hq0 hq1
            go_wp2
            go_ret
            exact ⟨Kit.ret_bool Hf.out.symm, rfl⟩
          · have q : decide (z < 0) = false := by simpa using hq0
            have q' : decide (1000 < z) = false := by simpa using hq1
            have Hq := Lib.hid (show 0 ≤ z ∧ z ≤ 1000 by omega)
            clear hq0 hq1
            go_wp2
            go_round
            case rel => exact ⟨k + 1, by omega, by go_num, fun j hj => by
              rcases Nat.lt_succ_iff_lt_or_eq.1 hj with h' | rfl
              · exact HI.out j h'
              · rw [← HZ.out]; exact Hq.out⟩
            case measure => simp [intOf]; omega
      · obtain rfl : k = n := by omega
        have Hf := Lib.hid (Zs.fit_all (zs := zs) (n := k) (by rw [HL.out]; exact HI.out))
        go_wp2
        go_ret
        exact ⟨Kit.ret_bool (by rw [Hf.out, HL.out]; simp), rfl⟩
  · have q0 : ((n : Int) != (m : Int)) = true := by simp; omega
    have Hf := Lib.hid (show Zs.fit zs m = false by rw [Bool.eq_false_iff]; intro e; have := (Zs.fit_iff.1 e).1; rw [HL.out] at this; exact hnm this)
    clear hnm
    go_enter Tryd.func67, Tryd.ntmps67
    go_wp2
    go_ret
    exact ⟨Kit.ret_bool Hf.out.symm, rfl⟩
set_option maxHeartbeats 400000 in
theorem relIndex_any (a b : Int) (w : World) (h0 : 0 ≤ a) (h1 : a < 1000) (h2 : 0 ≤ b) (h3 : b < 1000) :
    Calls Tryd.prog 35 #[.int .i64 a, .int .i64 b] w fun e w' => e = .returned (.int .i64 (a * 6 + b)) ∧ w = w' := by
  go_enter Tryd.func35, Tryd.ntmps35
  go_wp2
  go_ret
  exact ⟨rfl, rfl⟩

end Go.Proofs.YtofpcedpmbecgaaDoor

/- Contracts (CostOkI). -/
namespace Go.Proofs.YtofpcedpmbecgaaDoor
open Go.RowKit
set_option linter.unusedVariables false

set_option maxHeartbeats 1600000 in
set_option maxRecDepth 100000 in
theorem implCostOk_any (A0 A1 A2 : Option Addr) (n0 n1 n2 c0 c1 c2 : Nat) (k : Co) (w : World) (h : CoIn w w.heap.size A0 A1 A2 n0 n1 n2 k) (h0 : n0 ≤ 1048576) (h1 : n1 ≤ 1048576) (h2 : n2 ≤ 1048576) :
    Calls Tryd.prog 60 #[.agg #[.slice A0 n0 c0, .slice A1 n1 c1, .slice A2 n2 c2]] w fun e w' => e = .returned (.bool (Co.ok k)) ∧ Below w.heap.size w w' := by
  have H := Lib.hid h
  have HL := Lib.hid h.len
  clear h
  have HB := Lib.hid ((Below.refl w.heap.size w).alloc (Nat.le_refl _) (.cells #[.slice A0 n0 c0, .slice A1 n1 c1, .slice A2 n2 c2] 37))
  have H1 := Lib.hid (H.out.to_below HB.out)
  cases e0 : Zs.fit k.d 6 with
  | false =>
    have Hf := Lib.hid (show Co.ok k = false by unfold Co.ok; rw [e0]; rfl)
    have E0 := Lib.hid e0
    clear e0
    go_enter Tryd.func60, Tryd.ntmps60
    go_wp2_with fail
    refine (tableOk_any _ _ _ k.d 6 _ H1.out.1 h0 (by decide)).mono ?_
    rintro e w1 ⟨rfl, rfl⟩
    rw [E0.out]
    go_wp2
    go_ret
    exact ⟨Kit.ret_bool Hf.out.symm, HB.out⟩
  | true =>
    cases e1 : Zs.fit k.i 6 with
    | false =>
      have Hf := Lib.hid (show Co.ok k = false by unfold Co.ok; rw [e0, e1]; rfl)
      have E0 := Lib.hid e0
      have E1 := Lib.hid e1
      clear e0 e1
      go_enter Tryd.func60, Tryd.ntmps60
      go_wp2_with fail
      refine (tableOk_any _ _ _ k.d 6 _ H1.out.1 h0 (by decide)).mono ?_
      rintro e w1 ⟨rfl, rfl⟩
      rw [E0.out]
      go_wp2_with fail
      refine (tableOk_any _ _ _ k.i 6 _ H1.out.2.1 h1 (by decide)).mono ?_
      rintro e w1 ⟨rfl, rfl⟩
      rw [E1.out]
      go_wp2
      go_ret
      exact ⟨Kit.ret_bool Hf.out.symm, HB.out⟩
    | true =>
      cases e2 : Zs.fit k.r 36 with
      | false =>
        have Hf := Lib.hid (show Co.ok k = false by unfold Co.ok; rw [e0, e1, e2]; rfl)
        have E0 := Lib.hid e0
        have E1 := Lib.hid e1
        have E2 := Lib.hid e2
        clear e0 e1 e2
        go_enter Tryd.func60, Tryd.ntmps60
        go_wp2_with fail
        refine (tableOk_any _ _ _ k.d 6 _ H1.out.1 h0 (by decide)).mono ?_
        rintro e w1 ⟨rfl, rfl⟩
        rw [E0.out]
        go_wp2_with fail
        refine (tableOk_any _ _ _ k.i 6 _ H1.out.2.1 h1 (by decide)).mono ?_
        rintro e w1 ⟨rfl, rfl⟩
        rw [E1.out]
        go_wp2_with fail
        refine (tableOk_any _ _ _ k.r 36 _ H1.out.2.2 h2 (by decide)).mono ?_
        rintro e w1 ⟨rfl, rfl⟩
        rw [E2.out]
        go_wp2
        go_ret
        exact ⟨Kit.ret_bool Hf.out.symm, HB.out⟩
      | true =>
        have Hf := Lib.hid (show Co.ok k = Co.diag k by unfold Co.ok; rw [e0, e1, e2]; rfl)
        have hr := (Zs.fit_iff.1 e2).1
        have hn2 : n2 = 36 := by rw [← hr]; exact HL.out.2.2.symm
        have E0 := Lib.hid e0
        have E1 := Lib.hid e1
        have E2 := Lib.hid e2
        clear e0 e1 e2 hr
        subst hn2
        obtain ⟨ad, rfl, _⟩ := H1.out.2.2.2.1 (by omega)
        go_enter Tryd.func60, Tryd.ntmps60
        go_wp2_with fail
        refine (tableOk_any _ _ _ k.d 6 _ H1.out.1 h0 (by decide)).mono ?_
        rintro e w1 ⟨rfl, rfl⟩
        rw [E0.out]
        go_wp2_with fail
        refine (tableOk_any _ _ _ k.i 6 _ H1.out.2.1 h1 (by decide)).mono ?_
        rintro e w1 ⟨rfl, rfl⟩
        rw [E1.out]
        go_wp2_with fail
        refine (tableOk_any _ _ _ k.r 36 _ H1.out.2.2 h2 (by decide)).mono ?_
        rintro e w1 ⟨rfl, rfl⟩
        rw [E2.out]
        have HX := Lib.hid (Box3.made w (.slice A0 n0 c0) (.slice A1 n1 c1) (.slice (some ad) 36 c2) 37)
        obtain ⟨wz, hwz⟩ : ∃ wz, wz = w.alloc (.cells #[.slice A0 n0 c0, .slice A1 n1 c1, .slice (some ad) 36 c2] 37) := ⟨_, rfl⟩
        rw [← hwz] at HX HB H1
        go_wp2
        rw [← hwz]
        clear hwz
        go_loopw [20] (fun iv wr => ∃ a : Nat, a ≤ 6 ∧ iv = .int .i64 a ∧ Co.diagTo k a ∧ Drawn wz wr) (fun i _ => 6 - (intOf i).toNat)
        case atStart => exact ⟨0, Nat.zero_le _, rfl, fun j hj => absurd hj (Nat.not_lt_zero j), Drawn.refl _⟩
        case round =>
          obtain ⟨a, ha, rfl, hin, hD⟩ := hrel
          have HI := Lib.hid hin
          have HD := Lib.hid hD
          clear hin hD
          by_cases hlt : a < 6
          · have c1 := (H1.out.drawn HD.out).2.2.here (k := a * 6 + a) (by omega)
            obtain ⟨z, hz⟩ : ∃ z, z = Zs.at k.r (a * 6 + a) := ⟨_, rfl⟩
            rw [← hz] at c1
            have HZ := Lib.hid hz
            clear hz
            obtain ⟨p, hp⟩ : ∃ p, p = a * 6 + a := ⟨_, rfl⟩
            rw [← hp] at c1
            have k0 : decide ((a : Int) < 6) = true := by simp; omega
            have x0 := (HX.out.drawn HD.out).2.2
            have HA3 := Lib.hid (show (a : Int) * 6 + (a : Int) = (p : Int) by omega)
            have k1 : (0 : Int) ≤ (p : Int) := by omega
            have k2 : (p : Int) < 36 := by omega
            have HP := Lib.hid hp
            clear hp
            by_cases hq : z = 0
            · have q : (z != 0) = false := by simpa using hq
              have Hq := Lib.hid hq
              clear hq
              go_wp2_with fail
              go_quiet (first | (go_at_call 35; exact quiet_same ((relIndex_any _ _ _ (by omega) (by omega) (by omega) (by omega)).mono fun e w' ⟨h1, h2⟩ => ⟨by rw [h1, HA3.out], h2⟩)))
              go_wp2
              go_roundw
              case rel =>
                refine ⟨a + 1, by omega, by go_num, fun j hj => ?_, HD.out.drewN _⟩
                rcases Nat.lt_succ_iff_lt_or_eq.1 hj with h' | rfl
                · exact HI.out j h'
                · rw [← HZ.out]; exact Hq.out
              case measure => simp [intOf]; omega
            · have q : (z != 0) = true := by simpa using hq
              have Hd := Lib.hid (Co.diag_not (k := k) hlt (by rw [← HZ.out]; exact hq))
              clear hq
              go_wp2_with fail
              go_quiet (first | (go_at_call 35; exact quiet_same ((relIndex_any _ _ _ (by omega) (by omega) (by omega) (by omega)).mono fun e w' ⟨h1, h2⟩ => ⟨by rw [h1, HA3.out], h2⟩)))
              go_wp2
              go_ret
              exact ⟨Kit.ret_bool (by rw [Hf.out, Hd.out]), HB.out.trans ((HD.out.drewN _).toBelow)⟩
          · obtain rfl : a = 6 := by omega
            have Hd := Lib.hid (Co.diag_all HI.out)
            go_wp2
            go_ret
            exact ⟨Kit.ret_bool (by rw [Hf.out, Hd.out]), HB.out.trans HD.out.toBelow⟩

end Go.Proofs.YtofpcedpmbecgaaDoor
