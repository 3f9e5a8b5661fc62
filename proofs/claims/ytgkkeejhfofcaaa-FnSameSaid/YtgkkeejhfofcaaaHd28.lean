/- Texts of one claim laid into one file, in build order: FullI, DistI. -/
import Derived.Test.YtgkkeejhfofcaaaHd18
import Derived.Test.YtgkkeejhfofcaaaHd20
import Derived.Test.YtgkkeejhfofcaaaHd27
import Derived.Deep.RegionHeld3
import Derived.Outline
/- Contracts (FullI). -/
namespace Go.Proofs.Ytgkkeejhfofcaaa
open Go.RowKit
set_option linter.unusedVariables false

/-- what fullTable returns of valid trees and costs -/
def FullAt (xs ys : Tr) (k : Co) (w : World) (e : Ending) (w' : World) : Prop :=
  ∃ (D : DtD) (F : Nat → Nat → Int), e = .returned (.pointer (some ⟨D.g, 0, none⟩)) ∧ DT w.heap.size D xs ys k F (Tr.tds xs ys k) w' ∧ (∀ a b, a ≤ xs.length → b ≤ ys.length → F a b = RR xs ys k 0 a 0 b) ∧ Below w.heap.size w w'

/-- nine cells of a block stand; the world has only grown -/
def NiG (g : Nat) (w0 wq : World) : Prop := Below w0.heap.size w0 wq ∧ g < w0.heap.size
theorem nine_keep {w0 wx wq : World} {g : Nat} {u0 u1 u2 u3 u4 u5 u6 u7 u8 : Option Value} (hS : (wx.cell? ⟨g, 0, none⟩ = u0 ∧ wx.cell? ⟨g, 1, none⟩ = u1 ∧ wx.cell? ⟨g, 2, none⟩ = u2 ∧ wx.cell? ⟨g, 3, none⟩ = u3 ∧ wx.cell? ⟨g, 4, none⟩ = u4 ∧ wx.cell? ⟨g, 5, none⟩ = u5 ∧ wx.cell? ⟨g, 6, none⟩ = u6 ∧ wx.cell? ⟨g, 7, none⟩ = u7 ∧ wx.cell? ⟨g, 8, none⟩ = u8) ∧ NiG g w0 wx) (hb : Below wx.heap.size wx wq) : (wq.cell? ⟨g, 0, none⟩ = u0 ∧ wq.cell? ⟨g, 1, none⟩ = u1 ∧ wq.cell? ⟨g, 2, none⟩ = u2 ∧ wq.cell? ⟨g, 3, none⟩ = u3 ∧ wq.cell? ⟨g, 4, none⟩ = u4 ∧ wq.cell? ⟨g, 5, none⟩ = u5 ∧ wq.cell? ⟨g, 6, none⟩ = u6 ∧ wq.cell? ⟨g, 7, none⟩ = u7 ∧ wq.cell? ⟨g, 8, none⟩ = u8) ∧ NiG g w0 wq := by
  obtain ⟨⟨h0, h1, h2, h3, h4, h5, h6, h7, h8⟩, hB, hg⟩ := hS
  have hz := hB.size
  have c (o : Nat) : wq.cell? ⟨g, o, none⟩ = wx.cell? ⟨g, o, none⟩ := hb.cell (p := ⟨g, o, none⟩) (by show g < _; omega)
  exact ⟨⟨by rw [c 0, h0], by rw [c 1, h1], by rw [c 2, h2], by rw [c 3, h3], by rw [c 4, h4], by rw [c 5, h5], by rw [c 6, h6], by rw [c 7, h7], by rw [c 8, h8]⟩, hB.trans (hb.mono hz), hg⟩
theorem nine_below {w0 wx : World} {g : Nat} {u0 u1 u2 u3 u4 u5 u6 u7 u8 : Option Value} (hS : (wx.cell? ⟨g, 0, none⟩ = u0 ∧ wx.cell? ⟨g, 1, none⟩ = u1 ∧ wx.cell? ⟨g, 2, none⟩ = u2 ∧ wx.cell? ⟨g, 3, none⟩ = u3 ∧ wx.cell? ⟨g, 4, none⟩ = u4 ∧ wx.cell? ⟨g, 5, none⟩ = u5 ∧ wx.cell? ⟨g, 6, none⟩ = u6 ∧ wx.cell? ⟨g, 7, none⟩ = u7 ∧ wx.cell? ⟨g, 8, none⟩ = u8) ∧ NiG g w0 wx) : Below w0.heap.size w0 wx := hS.2.1
set_option maxHeartbeats 1600000 in
set_option maxRecDepth 100000 in
theorem fullTable_no (A A' : Option Addr) (n n' c c' : Nat) (xs ys : Tr) (K0 K1 K2 : Option Addr) (n0 n1 n2 c0 c1 c2 : Nat) (k : Co) (w : World) (ha : NdIn w w.heap.size A n xs) (hb : NdIn w w.heap.size A' n' ys) (hk : CoIn w w.heap.size K0 K1 K2 n0 n1 n2 k)
    (hn : n ≤ 1048576) (hn' : n' ≤ 1048576) (h0 : n0 ≤ 1048576) (h1 : n1 ≤ 1048576) (h2 : n2 ≤ 1048576) (hc : n ≤ c) (hc' : n' ≤ c') (hno : DOk xs ys k = false) :
    Calls Try.prog 60 #[.slice A n c, .slice A' n' c', .agg #[.slice K0 n0 c0, .slice K1 n1 c1, .slice K2 n2 c2]] w fun e w' => e = .returned (.pointer none) ∧ Below w.heap.size w w' := by
  obtain ⟨wc, hwc⟩ : ∃ wc, wc = w.alloc (.cells #[.slice K0 n0 c0, .slice K1 n1 c1, .slice K2 n2 c2] 31) := ⟨_, rfl⟩
  have hbc : Below w.heap.size w wc := by rw [hwc]; exact (Below.refl _ _).alloc (Nat.le_refl _) _
  have hzc : wc.heap.size = w.heap.size + 1 := by rw [hwc]; simp
  have HWC := Lib.hid hwc
  have HA := Lib.hid (ha.to_below hbc)
  have HB := Lib.hid (hb.to_below hbc)
  have HK := Lib.hid (hk.to_below hbc)
  have HBC := Lib.hid hbc
  have HZC := Lib.hid hzc
  have HK0 := Lib.hid hk
  have HN := Lib.hid hno
  clear ha hb hk hwc hbc hzc hno
  have M := Lib.hid (And.intro hn (And.intro hn' (And.intro h0 (And.intro h1 (And.intro h2 (And.intro hc hc'))))))
  clear hn hn' h0 h1 h2 hc hc'
  go_enter Try.func60, Try.ntmps60
  go_wp2_with fail
  rw [← HWC.out]
  refine (sidesOf_no _ _ _ _ _ _ xs ys _ _ _ _ _ _ _ _ _ k _ HA.out HB.out HK.out M.out.1 M.out.2.1 M.out.2.2.1 M.out.2.2.2.1 M.out.2.2.2.2.1 M.out.2.2.2.2.2.1 M.out.2.2.2.2.2.2 HN.out).mono ?_
  rintro e w1 ⟨rfl, b1⟩
  have BB1 := Lib.hid (HBC.out.trans (b1.mono HBC.out.size))
  have s1 := b1.size
  have s2 := HZC.out
  clear b1
  go_wp2
  go_ret
  exact ⟨rfl, BB1.out.alloc (by omega) _⟩
set_option maxHeartbeats 1600000 in
set_option maxRecDepth 100000 in
theorem fullTable_yes (A A' : Option Addr) (n n' c c' : Nat) (xs ys : Tr) (K0 K1 K2 : Option Addr) (n0 n1 n2 c0 c1 c2 : Nat) (k : Co) (w : World) (ha : NdIn w w.heap.size A n xs) (hb : NdIn w w.heap.size A' n' ys) (hk : CoIn w w.heap.size K0 K1 K2 n0 n1 n2 k)
    (hc : n ≤ c) (hc' : n' ≤ c') (hx : Tr.ok xs = true) (hy : Tr.ok ys = true) (ho : Co.ok k = true) :
    Calls Try.prog 60 #[.slice A n c, .slice A' n' c', .agg #[.slice K0 n0 c0, .slice K1 n1 c1, .slice K2 n2 c2]] w (FullAt xs ys k w) := by
  have hln := ha.1
  have hln' := hb.1
  have hkl := hk.len
  have l1 := (Zs.fit_iff.1 (Co.fit3 ho).1).1
  have l2 := (Zs.fit_iff.1 (Co.fit3 ho).2.1).1
  have l3 := (Zs.fit_iff.1 (Co.fit3 ho).2.2).1
  obtain rfl : n0 = 6 := by omega
  obtain rfl : n1 = 6 := by omega
  obtain rfl : n2 = 36 := by omega
  obtain ⟨k0, rfl, hk0⟩ := hk.1.2.1 (by omega)
  obtain ⟨k1, rfl, hk1⟩ := hk.2.1.2.1 (by omega)
  obtain ⟨k2, rfl, hk2⟩ := hk.2.2.2.1 (by omega)
  obtain ⟨x1, x24⟩ := Tr.len24 hx
  obtain ⟨y1, y24⟩ := Tr.len24 hy
  subst hln
  subst hln'
  obtain ⟨wc, hwc⟩ : ∃ wc, wc = w.alloc (.cells #[.slice (some k0) 6 c0, .slice (some k1) 6 c1, .slice (some k2) 36 c2] 31) := ⟨_, rfl⟩
  have hbc : Below w.heap.size w wc := by rw [hwc]; exact (Below.refl _ _).alloc (Nat.le_refl _) _
  have hzc : wc.heap.size = w.heap.size + 1 := by rw [hwc]; simp
  have HWC := Lib.hid hwc
  have HA := Lib.hid (ha.to_below hbc)
  have HB := Lib.hid (hb.to_below hbc)
  have HK := Lib.hid (hk.to_below hbc)
  have HBC := Lib.hid hbc
  have HZC := Lib.hid hzc
  have HK0 := Lib.hid hk
  obtain ⟨i0, hi0, hz0, hz1, hz2⟩ := info_parts info_intZ
  have Hi := Lib.hid hi0
  obtain ⟨nm, hnm⟩ : ∃ nm, nm = xs.length * ys.length := ⟨_, rfl⟩
  have hnm1 : nm ≤ 576 := by rw [hnm]; exact Nat.mul_le_mul x24 y24
  have hmul : (xs.length : Int) * (ys.length : Int) = (nm : Int) := by rw [hnm, Int.natCast_mul]
  have a3 : IntKind.i64.wrap ((xs.length : Int) * (ys.length : Int)) = (nm : Int) := by rw [hmul, Kit.w64 (by omega) (by omega)]
  have HNM := Lib.hid hnm
  have HX := Lib.hid hx
  have HY := Lib.hid hy
  have HO := Lib.hid ho
  have lk := fun (zs : Tr) (h : Tr.ok zs = true) => show 0 < (Tr.krs zs).length by obtain ⟨r, hr⟩ := Tr.krs_last h; rw [hr]; simp
  have LKX := Lib.hid (lk xs HX.out)
  have LKY := Lib.hid (lk ys HY.out)
  have kl := fun (zs : Tr) (h : Tr.ok zs = true) => show (Tr.krs zs).length ≤ 24 by have h1 := Tr.krTo_le zs (Tr.lfs zs).length; have h2 := Tr.lfs_len h; have h3 := (Tr.len24 h).2; unfold Tr.krs; omega
  have klx := kl xs HX.out
  have kly := kl ys HY.out
  clear lk kl ha hb hk hkl l1 l2 l3 hx hy ho hwc hbc hzc hi0 hnm hmul
  go_enter Try.func60, Try.ntmps60
  go_wp2_with fail
  rw [← HWC.out]
  refine (sidesOf_yes _ _ _ _ _ _ xs ys _ _ _ _ _ _ _ _ _ k _ HA.out HB.out HK.out hc hc' HX.out HY.out HO.out).mono ?_
  rintro e w1 ⟨ga0, ga1, ga2, gb0, gb1, gb2, ca0, ca1, ca2, cb0, cb1, cb2, rfl, ra0, ra1, ra2, rb0, rb1, rb2, b1⟩
  have s1 := b1.size
  have s2 := HZC.out
  have BB1 := Lib.hid (HBC.out.trans (b1.mono HBC.out.size))
  have ROWS := Lib.hid (And.intro ra0 (And.intro ra1 (And.intro ra2 (And.intro rb0 (And.intro rb1 rb2)))))
  have BC := Lib.hid b1
  clear b1 ra0 ra1 ra2 rb0 rb1 rb2
  obtain ⟨ra0, ra1, ra2, rb0, rb1, rb2⟩ := ROWS.out
  have la0 := (ra0.lt ga0 rfl).2
  have la1 := (ra1.lt ga1 rfl).2
  have la2 := (ra2.lt ga2 rfl).2
  have lb0 := (rb0.lt gb0 rfl).2
  have lb1 := (rb1.lt gb1 rfl).2
  have lb2 := (rb2.lt gb2 rfl).2
  have LL := Lib.hid (And.intro la0 (And.intro la1 (And.intro la2 (And.intro lb0 (And.intro lb1 lb2)))))
  clear ra0 ra1 ra2 rb0 rb1 rb2 la0 la1 la2 lb0 lb1 lb2
  obtain ⟨w2, hw2⟩ : ∃ w2, w2 = w1.alloc (.cells #[.slice (some ⟨ga0, 0, none⟩) xs.length ca0, .slice (some ⟨ga1, 0, none⟩) xs.length ca1, .slice (some ⟨ga2, 0, none⟩) (Tr.krs xs).length ca2, .slice (some ⟨gb0, 0, none⟩) ys.length cb0, .slice (some ⟨gb1, 0, none⟩) ys.length cb1, .slice (some ⟨gb2, 0, none⟩) (Tr.krs ys).length cb2, .slice (some k0) 6 c0, .slice (some k1) 6 c1, .slice (some k2) 36 c2] 89) := ⟨_, rfl⟩
  have hb2 : Below w1.heap.size w1 w2 := by rw [hw2]; exact (Below.refl _ _).alloc (Nat.le_refl _) _
  have z2 : w2.heap.size = w1.heap.size + 1 := by rw [hw2]; simp
  have S0 := Lib.hid (show (w2.drew.cell? ⟨w1.heap.size, 0, none⟩ = some (.slice (some ⟨ga0, 0, none⟩) xs.length ca0) ∧ w2.drew.cell? ⟨w1.heap.size, 1, none⟩ = some (.slice (some ⟨ga1, 0, none⟩) xs.length ca1) ∧ w2.drew.cell? ⟨w1.heap.size, 2, none⟩ = some (.slice (some ⟨ga2, 0, none⟩) (Tr.krs xs).length ca2) ∧ w2.drew.cell? ⟨w1.heap.size, 3, none⟩ = some (.slice (some ⟨gb0, 0, none⟩) ys.length cb0) ∧ w2.drew.cell? ⟨w1.heap.size, 4, none⟩ = some (.slice (some ⟨gb1, 0, none⟩) ys.length cb1) ∧ w2.drew.cell? ⟨w1.heap.size, 5, none⟩ = some (.slice (some ⟨gb2, 0, none⟩) (Tr.krs ys).length cb2) ∧ w2.drew.cell? ⟨w1.heap.size, 6, none⟩ = some (.slice (some k0) 6 c0) ∧ w2.drew.cell? ⟨w1.heap.size, 7, none⟩ = some (.slice (some k1) 6 c1) ∧ w2.drew.cell? ⟨w1.heap.size, 8, none⟩ = some (.slice (some k2) 36 c2)) ∧ NiG w1.heap.size w2 w2.drew from by rw [hw2]; exact ⟨⟨cell_made _ _ _ 0 _ rfl, cell_made _ _ _ 1 _ rfl, cell_made _ _ _ 2 _ rfl, cell_made _ _ _ 3 _ rfl, cell_made _ _ _ 4 _ rfl, cell_made _ _ _ 5 _ rfl, cell_made _ _ _ 6 _ rfl, cell_made _ _ _ 7 _ rfl, cell_made _ _ _ 8 _ rfl⟩, (Drawn.refl _).drew.toBelow, by simp⟩)
  have B2 := Lib.hid hb2
  have Z2 := Lib.hid z2
  have HW2 := Lib.hid hw2
  have C1 := Lib.hid s1
  have C2 := Lib.hid s2
  have X24 := Lib.hid (And.intro klx kly)
  clear hb2 z2 hw2 s1 s2 klx kly x1 x24 y1 y24
  go_wp2_with fail
  rw [← HW2.out]
  go_region_held3 (fun wq => (wq.cell? ⟨w1.heap.size, 0, none⟩ = some (.slice (some ⟨ga0, 0, none⟩) xs.length ca0) ∧ wq.cell? ⟨w1.heap.size, 1, none⟩ = some (.slice (some ⟨ga1, 0, none⟩) xs.length ca1) ∧ wq.cell? ⟨w1.heap.size, 2, none⟩ = some (.slice (some ⟨ga2, 0, none⟩) (Tr.krs xs).length ca2) ∧ wq.cell? ⟨w1.heap.size, 3, none⟩ = some (.slice (some ⟨gb0, 0, none⟩) ys.length cb0) ∧ wq.cell? ⟨w1.heap.size, 4, none⟩ = some (.slice (some ⟨gb1, 0, none⟩) ys.length cb1) ∧ wq.cell? ⟨w1.heap.size, 5, none⟩ = some (.slice (some ⟨gb2, 0, none⟩) (Tr.krs ys).length cb2) ∧ wq.cell? ⟨w1.heap.size, 6, none⟩ = some (.slice (some k0) 6 c0) ∧ wq.cell? ⟨w1.heap.size, 7, none⟩ = some (.slice (some k1) 6 c1) ∧ wq.cell? ⟨w1.heap.size, 8, none⟩ = some (.slice (some k2) 36 c2)) ∧ NiG w1.heap.size w2 wq) (first | (with_reducible exact S0.out) | (with_reducible refine nine_keep ?_ hb; with_reducible assumption) | (with_reducible refine nine_keep ?_ ((Below.refl _ _).alloc (Nat.le_refl _) _); with_reducible assumption)) (first | (refine upon_make w.heap.size 29 3 i0 Try.underlying29 Hi.out hz0 hz1 hz2 nm (by omega) (by have := (nine_below (by assumption)).size; have := Z2.out; have := C1.out; have := C2.out; omega) ?_; intro w7 rt hg7; have hb : Below _ _ w7 := (Below.refl _ _).grown hg7 (Nat.le_refl _) (fun _ h => by cases h); have hbm := hb))
  obtain ⟨ra0, ra1, ra2, rb0, rb1, rb2⟩ := ROWS.out
  obtain ⟨la0, la1, la2, lb0, lb1, lb2⟩ := LL.out
  have sm := hbm.size
  have s1 := C1.out
  have s2 := C2.out
  have z2 := Z2.out
  have zd : w2.drew.heap.size = w2.heap.size := rfl
  have up : ∀ {v : Value} {m : Nat} {zs : List Value}, w1.ownsRow wc.heap.size 3 1 v m zs → w7.ownsRow w.heap.size 3 1 v m zs := fun h => own_base (own_below (own_drawn (own_below h B2.out) (Drawn.refl _).drew) hbm) (by omega)
  have va0 := up ra0
  have va1 := up ra1
  have va2 := up ra2
  have vb0 := up rb0
  have vb1 := up rb1
  have vb2 := up rb2
  have vt : w7.ownsRow w.heap.size 3 1 (.slice (some ⟨w2.heap.size, 0, none⟩) nm nm) nm (ints (List.replicate nm 0)) := rt
  have ht7 : w.heap.size ≤ w2.heap.size ∧ w2.heap.size < w7.heap.size := rt.lt _ rfl
  have hbl : Below w1.heap.size w1 w7 := (B2.out.trans ((Drawn.refl w2).drew.toBelow (B := w1.heap.size))).trans (hbm.mono (by omega))
  have hF : Below w.heap.size w w7 := BB1.out.trans (hbl.mono (by omega))
  have CW : CoIn w7 w.heap.size (some k0) (some k1) (some k2) 6 6 36 k := HK0.out.below hF
  have hD := DT.made (B := w.heap.size) (ck0 := c0) (ck1 := c1) (ck2 := c2) va0 va1 va2 vb0 vb1 vb2 HNM.out vt CW (by refine ⟨?_, ?_, ?_, ?_, ?_, ?_⟩ <;> omega) (by refine ⟨?_, ?_, ?_, ?_, ?_, ?_⟩ <;> omega) ⟨by omega, by omega⟩
  unfold dtCells at hD
  have hF2 : ∀ o, Below w.heap.size w (w7.alloc o) := fun o => hF.alloc (by omega) o
  generalize hwf : World.alloc w7 _ = wf at hD ⊢
  have hBW : Below w.heap.size w wf := by rw [← hwf]; exact hF2 _
  obtain ⟨D, hg, hD⟩ : ∃ D : DtD, D.g = w7.heap.size ∧ DT w.heap.size D xs ys k (fun _ _ => 0) (List.replicate nm 0) wf := ⟨_, rfl, hD⟩
  rw [← hg]
  have HD := Lib.hid hD
  have HBW := Lib.hid hBW
  have HT0 := Lib.hid (show (List.replicate nm (0 : Int)).length = xs.length * ys.length by rw [List.length_replicate]; exact HNM.out)
  have c2' := hD.h2
  obtain ⟨klx, kly⟩ := X24.out
  clear up va0 va1 va2 vb0 vb1 vb2 vt ra0 ra1 ra2 rb0 rb1 rb2 rt hg7 hbm hbl CW hD hF hF2 hBW hwf S0 sm s1 s2 z2 zd ht7 la0 la1 la2 lb0 lb1 lb2 hg
  go_wp2
  go_loopw [39] (fun kv wr => ∃ (kk : Nat) (F : Nat → Nat → Int) (T : List Int), kk ≤ (Tr.krs xs).length ∧ kv = .int .i64 kk ∧ Roots xs ys k kk 0 T ∧ DT w.heap.size D xs ys k F T wr ∧ Below w.heap.size w wr ∧ (kk = (Tr.krs xs).length → ∀ a b, a ≤ xs.length → b ≤ ys.length → F a b = RR xs ys k 0 a 0 b)) (fun kk _ => (Tr.krs xs).length - (intOf kk).toNat)
  case atStart => exact ⟨0, _, _, Nat.zero_le _, rfl, Roots.start HT0.out, HD.out, HBW.out, fun h => by have := LKX.out; omega⟩
  case round =>
    clear HD HBW HT0
    obtain ⟨kk, F, T, hkk, rfl, hR, hD, hB, hL⟩ := hrel
    have HR := Lib.hid hR
    have HD := Lib.hid hD
    have HB := Lib.hid hB
    have HL := Lib.hid hL
    clear hR hD hB hL
    by_cases hlt : kk < (Tr.krs xs).length
    · have r1 := HD.out.ra2.at_ kk hlt
      rw [Tr.kr_up hlt] at r1
      have hil := Tr.krs_lt HX.out (Tr.kr_mem hlt)
      have h5 := HD.out.h5
      have k1 : (0 : Int) ≤ (kk : Int) := by omega
      have k2 : (kk : Int) < ((Tr.krs xs).length : Int) := by omega
      go_wp2
      go_loopw [50] (fun lv wr => ∃ (ll : Nat) (F : Nat → Nat → Int) (T : List Int), ll ≤ (Tr.krs ys).length ∧ lv = .int .i64 ll ∧ Roots xs ys k kk ll T ∧ DT w.heap.size D xs ys k F T wr ∧ Below w.heap.size w wr ∧ (kk + 1 = (Tr.krs xs).length → ll = (Tr.krs ys).length → ∀ a b, a ≤ xs.length → b ≤ ys.length → F a b = RR xs ys k 0 a 0 b)) (fun ll _ => (Tr.krs ys).length - (intOf ll).toNat)
      case atStart => exact ⟨0, F, T, Nat.zero_le _, rfl, HR.out, HD.out, HB.out, fun _ h => by have := LKY.out; omega⟩
      case round =>
        clear HR HD HB HL
        clear F T
        obtain ⟨ll, F, T, hll, rfl, hR, hD, hB, hL⟩ := hrel
        have HR := Lib.hid hR
        have HD := Lib.hid hD
        have HB := Lib.hid hB
        have HL := Lib.hid hL
        clear hR hD hB hL
        by_cases hlt2 : ll < (Tr.krs ys).length
        · have r2 := HD.out.rb2.at_ ll hlt2
          rw [Tr.kr_up hlt2] at r2
          have hjl := Tr.krs_lt HY.out (Tr.kr_mem hlt2)
          have l1 : (0 : Int) ≤ (ll : Int) := by omega
          have l2 : (ll : Int) < ((Tr.krs ys).length : Int) := by omega
          go_wp2_with fail
          refine (distCmp_any w.heap.size D xs ys k F T wr HD.out HX.out HY.out HO.out (Tr.kr xs kk) (Tr.kr ys ll) hil hjl (Roots.ahead HX.out HY.out hlt hlt2 HR.out)).mono ?_
          rintro e w7 ⟨rfl, ⟨F', T', hf, hD'⟩, hb'⟩
          have HR' := Lib.hid (Roots.step hlt hlt2 HR.out hf)
          have HL' := Lib.hid (fun (e1 : kk + 1 = (Tr.krs xs).length) (e2 : ll + 1 = (Tr.krs ys).length) => fill_last HX.out HY.out e1 e2 hf)
          have HD' := Lib.hid hD'
          have HB' := Lib.hid (HB.out.trans hb')
          clear hf hD' hb'
          go_wp2
          go_roundw
          case rel => exact ⟨ll + 1, F', T', by omega, by go_num, HR'.out, HD'.out, HB'.out, HL'.out⟩
          case measure => simp [intOf]; omega
        · have hle : ll = (Tr.krs ys).length := by omega
          have HLL := Lib.hid (fun e => HL.out e hle)
          rw [hle] at HR
          clear HL
          have HN := Lib.hid (Roots.next HR.out)
          clear hle
          go_wp2
          go_roundw
          case rel => exact ⟨kk + 1, F, T, by omega, by go_num, HN.out, HD.out, HB.out, HLL.out⟩
          case measure => simp [intOf]; omega
    · have hke : kk = (Tr.krs xs).length := by omega
      have HLL := Lib.hid (HL.out hke)
      rw [hke] at HR
      clear hke HL
      have HT := Lib.hid (Roots.tds HX.out HY.out HR.out)
      go_wp2
      go_ret
      exact ⟨D, F, rfl, by rw [← HT.out]; exact HD.out, HLL.out, HB.out⟩


end Go.Proofs.Ytgkkeejhfofcaaa

/- Contracts (DistI). -/
namespace Go.Proofs.Ytgkkeejhfofcaaa
open Go.RowKit
set_option linter.unusedVariables false

section
variable (A A' : Option Addr) (n n' c c' : Nat) (xs ys : Tr) (K0 K1 K2 : Option Addr) (n0 n1 n2 c0 c1 c2 : Nat) (k : Co) (w : World) (ha : NdIn w w.heap.size A n xs) (hb : NdIn w w.heap.size A' n' ys) (hk : CoIn w w.heap.size K0 K1 K2 n0 n1 n2 k)
    (hn : n ≤ 1048576) (hn' : n' ≤ 1048576) (h0 : n0 ≤ 1048576) (h1 : n1 ≤ 1048576) (h2 : n2 ≤ 1048576) (hc : n ≤ c) (hc' : n' ≤ c')
include ha hb hk hn hn' h0 h1 h2 hc hc'
set_option maxHeartbeats 1600000 in
set_option maxRecDepth 100000 in
theorem implRootDist_any : Calls Try.prog 15 #[.slice A n c, .slice A' n' c', .agg #[.slice K0 n0 c0, .slice K1 n1 c1, .slice K2 n2 c2]] w fun e w' => e = .returned (.int .i64 (Tr.rootDist xs ys k)) ∧ Below w.heap.size w w' := by
  obtain ⟨wc, hwc⟩ : ∃ wc, wc = w.alloc (.cells #[.slice K0 n0 c0, .slice K1 n1 c1, .slice K2 n2 c2] 31) := ⟨_, rfl⟩
  have hbc : Below w.heap.size w wc := by rw [hwc]; exact (Below.refl _ _).alloc (Nat.le_refl _) _
  have HWC := Lib.hid hwc
  have HA := Lib.hid (ha.to_below hbc)
  have HB := Lib.hid (hb.to_below hbc)
  have HK := Lib.hid (hk.to_below hbc)
  have HBC := Lib.hid hbc
  cases hd : DOk xs ys k with
  | false =>
    have Hf := Lib.hid (show Tr.rootDist xs ys k = -1 by unfold DOk at hd; unfold Tr.rootDist; rw [hd]; rfl)
    have HD := Lib.hid hd
    clear ha hb hk hd hwc hbc
    go_enter Try.func15, Try.ntmps15
    go_wp2_with fail
    rw [← HWC.out]
    refine (fullTable_no _ _ _ _ _ _ xs ys _ _ _ _ _ _ _ _ _ k _ HA.out HB.out HK.out hn hn' h0 h1 h2 hc hc' HD.out).mono ?_
    rintro e w1 ⟨rfl, b1⟩
    have BB1 := Lib.hid (HBC.out.trans (b1.mono HBC.out.size))
    clear b1
    go_wp2
    go_ret
    exact ⟨Kit.ret_int Hf.out.symm, BB1.out⟩
  | true =>
    obtain ⟨o1, o2, o3⟩ := DOk.parts hd
    obtain ⟨x1, x24⟩ := Tr.len24 o1
    obtain ⟨y1, y24⟩ := Tr.len24 o2
    have hln := ha.1
    have hln' := hb.1
    obtain ⟨x, hx⟩ : ∃ x, x = xs.length - 1 := ⟨_, rfl⟩
    obtain ⟨y, hy⟩ : ∃ y, y = ys.length - 1 := ⟨_, rfl⟩
    have n3 := (Co.nonneg' k).2.2 (Tr.xa xs x) (Tr.xa ys y)
    have bd := RR_bound (k := k) o1 o2 (p := 0) (a := x) (q := 0) (b := y) (Nat.zero_le _) (by omega) (Nat.zero_le _) (by omega)
    have Hf := Lib.hid (show Tr.rootDist xs ys k = RR xs ys k 0 x 0 y + Co.rel k (Tr.xa xs x) (Tr.xa ys y) by unfold DOk at hd; unfold Tr.rootDist; rw [hd, hx, hy, Tr.xa_last o1, Tr.xa_last o2]; rfl)
    have O1 := Lib.hid o1
    have O2 := Lib.hid o2
    have O3 := Lib.hid o3
    have e1 : (n : Int) - 1 = (x : Int) := by omega
    have e2 : (n' : Int) - 1 = (y : Int) := by omega
    have HX := Lib.hid hx
    have HY := Lib.hid hy
    have k1 : (0 : Int) ≤ (x : Int) := by omega
    have k2 : (x : Int) < 25 := by omega
    have k3 : (0 : Int) ≤ (y : Int) := by omega
    have k4 : (y : Int) < 25 := by omega
    have a1 : IntKind.i64.wrap ((n : Int) - 1) = (x : Int) := by rw [Kit.w64 (by omega) (by omega)]; exact e1
    have a2 : IntKind.i64.wrap ((n' : Int) - 1) = (y : Int) := by rw [Kit.w64 (by omega) (by omega)]; exact e2
    clear ha hb hk hd hwc hbc o1 o2 o3 hx hy
    go_enter Try.func15, Try.ntmps15
    go_wp2_with fail
    rw [← HWC.out]
    refine (fullTable_yes _ _ _ _ _ _ xs ys _ _ _ _ _ _ _ _ _ k _ HA.out HB.out HK.out hc hc' O1.out O2.out O3.out).mono ?_
    rintro e w1 ⟨D, F, rfl, hD, hF, b1⟩
    have HD := Lib.hid hD
    have BB1 := Lib.hid (HBC.out.trans (b1.mono HBC.out.size))
    have cf := hD.fr x y (by omega) (by omega)
    rw [hF x y (by have := HX.out; omega) (by have := HY.out; omega)] at cf
    clear b1 hD hF
    go_wp2_with fail
    try rw [e1]
    try rw [e2]
    go_quiet (first | (go_at_call 61; exact quiet_drawn (distRel_any _ _ _ _ _ _ _ _ (HD.out.drawn ((Drawn.refl _).drewN _)) O1.out O2.out O3.out x y (by have := HX.out; omega) (by have := HY.out; omega))))
    go_wp2
    go_ret
    exact ⟨Kit.ret_int Hf.out.symm, Drawn.below BB1.out ((Drawn.refl _).drewN _)⟩
end

end Go.Proofs.Ytgkkeejhfofcaaa
