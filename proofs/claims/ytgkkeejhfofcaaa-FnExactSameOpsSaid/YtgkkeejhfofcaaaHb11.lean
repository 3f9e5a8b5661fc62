/- Texts of one claim laid into one file, in build order: SopS, SosS, SmI. -/
import Derived.Test.YtgkkeejhfofcaaaHb1
import Derived.Test.YtgkkeejhfofcaaaHb10
import Derived.BigQuiet
import Derived.Deep.QuietTactic
import Derived.Outline
import Derived.Test.YtgkkeejhfofcaaaRows
/- Contracts (SopS). -/
namespace Go.Proofs.Ytgkkeejhfofcaaa
open Go.RowKit
set_option linter.unusedVariables false


/-- two operations with the same fields -/
def Opr.same (o o' : Opr) : Bool := decide (o.k = o'.k) && (decide (o.p = o'.p) && (decide (o.a = o'.a) && (decide (o.f = o'.f) && decide (o.c = o'.c))))
theorem Opr.same_iff (o o' : Opr) : Opr.same o o' = true ↔ o = o' := by
  obtain ⟨k, p, a, f, c⟩ := o
  obtain ⟨k', p', a', f', c'⟩ := o'
  simp [Opr.same]
instance : DecidableEq Opr := fun o o' => decidable_of_iff _ (Opr.same_iff o o')
theorem Os.ext {os os' : List Opr} (hl : os.length = os'.length) (h : ∀ k, k < os.length → os.getD k Opr.z = os'.getD k Opr.z) : os = os' := by
  apply List.ext_getElem hl
  intro i h1 h2
  have := h i h1
  simpa [List.getD_eq_getElem?_getD, h1, h2] using this
set_option maxHeartbeats 3200000 in
set_option maxRecDepth 100000 in
theorem l15Same_any (k a f z k' a' f' z' : Int) (p p' : List Int) (P P' : Option Addr) (m q m' q' : Nat) (w : World) (h : IntIn w w.heap.size P m p) (h' : IntIn w w.heap.size P' m' p') (hm : m ≤ 1048576) (hm' : m' ≤ 1048576) :
    Calls Try.prog 106 #[.agg #[.int .i64 k, .slice P m q, .int .i64 a, .int .i64 f, .int .i64 z], .agg #[.int .i64 k', .slice P' m' q', .int .i64 a', .int .i64 f', .int .i64 z']] w fun e w' => e = .returned (.bool (Opr.same ⟨k, p, a, f, z⟩ ⟨k', p', a', f', z'⟩)) ∧ Below w.heap.size w w' := by
  have H := Lib.hid h
  have H' := Lib.hid h'
  clear h h'
  obtain ⟨o1, ho1⟩ : ∃ o, o = Obj.cells #[.int .i64 k, .slice P m q, .int .i64 a, .int .i64 f, .int .i64 z] 39 := ⟨_, rfl⟩
  obtain ⟨o2, ho2⟩ : ∃ o, o = Obj.cells #[.int .i64 k', .slice P' m' q', .int .i64 a', .int .i64 f', .int .i64 z'] 39 := ⟨_, rfl⟩
  obtain ⟨s, hs⟩ : ∃ s, s = w.heap.size := ⟨_, rfl⟩
  have hx0 : Bx5 (w.alloc o1) s (.int .i64 k) (.slice P m q) (.int .i64 a) (.int .i64 f) (.int .i64 z) := by rw [ho1, hs]; exact Bx5.made _ _ _ _ _ _ _
  have s1 : (w.alloc o1).heap.size = s + 1 := by rw [hs]; simp
  have hb1 := (Below.refl w.heap.size w).alloc (Nat.le_refl _) o1
  have hb2 := hb1.alloc hb1.size o2
  have hz0 : Bx5 ((w.alloc o1).alloc o2) (s + 1) (.int .i64 k') (.slice P' m' q') (.int .i64 a') (.int .i64 f') (.int .i64 z') := by rw [← s1, ho2]; exact Bx5.made _ _ _ _ _ _ _
  obtain ⟨wa, hwa⟩ : ∃ wa, wa = (w.alloc o1).alloc o2 := ⟨_, rfl⟩
  have ha1 : Below (w.alloc o1).heap.size (w.alloc o1) wa := by rw [hwa]; exact (Below.refl _ _).alloc (Nat.le_refl _) o2
  have HX := Lib.hid (hx0.below ha1 (by omega))
  rw [← hwa] at hz0 hb2
  have HZ := Lib.hid hz0
  have HB := Lib.hid hb2
  have HS := Lib.hid hs
  have HW := Lib.hid hwa
  have HI := Lib.hid (H.out.to_below HB.out)
  have HI' := Lib.hid (H'.out.to_below HB.out)
  have HE := Lib.hid ((fun A A' n c n' c' x y wq h h' hn hn' => l7Same_any A A' n c n' c' x y wq h h' hn hn') P P' m q m' q' p p' wa HI.out HI'.out hm hm')
  clear hx0 hz0 hb1 hb2 s1 ha1 hwa
  subst ho1
  subst ho2
  clear hs
  obtain ⟨r, hr⟩ : ∃ r, r = Opr.same ⟨k, p, a, f, z⟩ ⟨k', p', a', f', z'⟩ := ⟨_, rfl⟩
  rw [← hr]
  have HR := Lib.hid hr
  clear hr
  by_cases ck : k = k'
  rotate_left
  · have ek : (k == k') = false := by simp [ck]
    have HQ := Lib.hid (show r = false by rw [HR.out]; simp [Opr.same, ck])
    clear ck
    go_enter Try.func106, Try.ntmps106
    have hx := HX.out.1
    have hz := HZ.out.1
    rw [HW.out, HS.out] at hx hz
    go_wp2
    go_ret
    exact ⟨Kit.ret_bool (by rw [HQ.out]), by rw [← HW.out]; exact HB.out⟩
  by_cases cp : p = p'
  rotate_left
  · have ek : (k == k') = true := by simp [ck]
    have HQ := Lib.hid (show r = false by rw [HR.out]; simp [Opr.same, ck, cp])
    have qq : decide (p = p') = false := decide_eq_false cp
    clear ck cp
    go_enter Try.func106, Try.ntmps106
    have hx := HX.out.1
    have hz := HZ.out.1
    have hx1 := HX.out.2.1
    have hz1 := HZ.out.2.1
    rw [HW.out, HS.out] at hx hz hx1 hz1
    go_wp2_with fail
    rw [← HW.out]
    refine HE.out.mono ?_
    rintro e w1 ⟨rfl, hd⟩
    rw [qq]
    have hb := hd.toBelow (B := wa.heap.size)
    obtain ⟨x0, x1, x2, x3, x4⟩ := HX.out.keep hb
    obtain ⟨y0, y1, y2, y3, y4⟩ := HZ.out.keep hb
    rw [HS.out] at x0 x1 x2 x3 x4 y0 y1 y2 y3 y4
    have HB1 := Lib.hid (HB.out.trans (hb.mono HB.out.size))
    clear hb hd qq hx hz hx1 hz1
    go_wp2
    go_ret
    exact ⟨Kit.ret_bool (by rw [HQ.out]), HB1.out⟩
  by_cases ca : a = a'
  rotate_left
  · have ek : (k == k') = true := by simp [ck]
    have ea : (a == a') = false := by simp [ca]
    have HQ := Lib.hid (show r = false by rw [HR.out]; simp [Opr.same, ck, cp, ca])
    have qq : decide (p = p') = true := decide_eq_true cp
    clear ck cp ca
    go_enter Try.func106, Try.ntmps106
    have hx := HX.out.1
    have hz := HZ.out.1
    have hx1 := HX.out.2.1
    have hz1 := HZ.out.2.1
    rw [HW.out, HS.out] at hx hz hx1 hz1
    go_wp2_with fail
    rw [← HW.out]
    refine HE.out.mono ?_
    rintro e w1 ⟨rfl, hd⟩
    rw [qq]
    have hb := hd.toBelow (B := wa.heap.size)
    obtain ⟨x0, x1, x2, x3, x4⟩ := HX.out.keep hb
    obtain ⟨y0, y1, y2, y3, y4⟩ := HZ.out.keep hb
    rw [HS.out] at x0 x1 x2 x3 x4 y0 y1 y2 y3 y4
    have HB1 := Lib.hid (HB.out.trans (hb.mono HB.out.size))
    clear hb hd qq hx hz hx1 hz1
    go_wp2
    go_ret
    exact ⟨Kit.ret_bool (by rw [HQ.out]), HB1.out⟩
  by_cases cf : f = f'
  rotate_left
  · have ek : (k == k') = true := by simp [ck]
    have ea : (a == a') = true := by simp [ca]
    have ef : (f == f') = false := by simp [cf]
    have HQ := Lib.hid (show r = false by rw [HR.out]; simp [Opr.same, ck, cp, ca, cf])
    have qq : decide (p = p') = true := decide_eq_true cp
    clear ck cp ca cf
    go_enter Try.func106, Try.ntmps106
    have hx := HX.out.1
    have hz := HZ.out.1
    have hx1 := HX.out.2.1
    have hz1 := HZ.out.2.1
    rw [HW.out, HS.out] at hx hz hx1 hz1
    go_wp2_with fail
    rw [← HW.out]
    refine HE.out.mono ?_
    rintro e w1 ⟨rfl, hd⟩
    rw [qq]
    have hb := hd.toBelow (B := wa.heap.size)
    obtain ⟨x0, x1, x2, x3, x4⟩ := HX.out.keep hb
    obtain ⟨y0, y1, y2, y3, y4⟩ := HZ.out.keep hb
    rw [HS.out] at x0 x1 x2 x3 x4 y0 y1 y2 y3 y4
    have HB1 := Lib.hid (HB.out.trans (hb.mono HB.out.size))
    clear hb hd qq hx hz hx1 hz1
    go_wp2
    go_ret
    exact ⟨Kit.ret_bool (by rw [HQ.out]), HB1.out⟩
  by_cases cz : z = z'
  rotate_left
  · have ek : (k == k') = true := by simp [ck]
    have ea : (a == a') = true := by simp [ca]
    have ef : (f == f') = true := by simp [cf]
    have ez : (z == z') = false := by simp [cz]
    have HQ := Lib.hid (show r = false by rw [HR.out]; simp [Opr.same, ck, cp, ca, cf, cz])
    have qq : decide (p = p') = true := decide_eq_true cp
    clear ck cp ca cf cz
    go_enter Try.func106, Try.ntmps106
    have hx := HX.out.1
    have hz := HZ.out.1
    have hx1 := HX.out.2.1
    have hz1 := HZ.out.2.1
    rw [HW.out, HS.out] at hx hz hx1 hz1
    go_wp2_with fail
    rw [← HW.out]
    refine HE.out.mono ?_
    rintro e w1 ⟨rfl, hd⟩
    rw [qq]
    have hb := hd.toBelow (B := wa.heap.size)
    obtain ⟨x0, x1, x2, x3, x4⟩ := HX.out.keep hb
    obtain ⟨y0, y1, y2, y3, y4⟩ := HZ.out.keep hb
    rw [HS.out] at x0 x1 x2 x3 x4 y0 y1 y2 y3 y4
    have HB1 := Lib.hid (HB.out.trans (hb.mono HB.out.size))
    clear hb hd qq hx hz hx1 hz1
    go_wp2
    go_ret
    exact ⟨Kit.ret_bool (by rw [HQ.out]), HB1.out⟩
  have ek : (k == k') = true := by simp [ck]
  have ea : (a == a') = true := by simp [ca]
  have ef : (f == f') = true := by simp [cf]
  have ez : (z == z') = true := by simp [cz]
  have HQ := Lib.hid (show r = true by rw [HR.out]; simp [Opr.same, ck, cp, ca, cf, cz])
  have qq : decide (p = p') = true := decide_eq_true cp
  clear ck cp ca cf cz
  go_enter Try.func106, Try.ntmps106
  have hx := HX.out.1
  have hz := HZ.out.1
  have hx1 := HX.out.2.1
  have hz1 := HZ.out.2.1
  rw [HW.out, HS.out] at hx hz hx1 hz1
  go_wp2_with fail
  rw [← HW.out]
  refine HE.out.mono ?_
  rintro e w1 ⟨rfl, hd⟩
  rw [qq]
  have hb := hd.toBelow (B := wa.heap.size)
  obtain ⟨x0, x1, x2, x3, x4⟩ := HX.out.keep hb
  obtain ⟨y0, y1, y2, y3, y4⟩ := HZ.out.keep hb
  rw [HS.out] at x0 x1 x2 x3 x4 y0 y1 y2 y3 y4
  have HB1 := Lib.hid (HB.out.trans (hb.mono HB.out.size))
  clear hb hd qq hx hz hx1 hz1
  go_wp2
  go_ret
  exact ⟨Kit.ret_bool (by rw [HQ.out]), HB1.out⟩

end Go.Proofs.Ytgkkeejhfofcaaa

/- Contracts (SosS). -/
namespace Go.Proofs.Ytgkkeejhfofcaaa
open Go.RowKit
set_option linter.unusedVariables false

set_option maxHeartbeats 3200000 in
set_option maxRecDepth 100000 in
theorem specSameOps_any (A A' : Option Addr) (n n' c c' : Nat) (os os' : List Opr) (w : World) (h : OpsIn w w.heap.size A n os) (h' : OpsIn w w.heap.size A' n' os') (hn : n ≤ 1048576) (hn' : n' ≤ 1048576) (hp : ∀ i, (os.getD i Opr.z).p.length ≤ 1048576) (hp' : ∀ i, (os'.getD i Opr.z).p.length ≤ 1048576) :
    Calls Try.prog 48 #[.slice A n c, .slice A' n' c'] w fun e w' => e = .returned (.bool (decide (os = os'))) ∧ Below w.heap.size w w' := by
  have H := Lib.hid h
  have H' := Lib.hid h'
  have HP := Lib.hid hp
  have HP' := Lib.hid hp'
  clear h h' hp hp'
  have HL := Lib.hid H.out.1
  have HL' := Lib.hid H'.out.1
  by_cases hnn : n = n'
  rotate_left
  · have HQ := Lib.hid (show decide (os = os') = false from decide_eq_false (fun e => hnn (by rw [← HL.out, ← HL'.out, e])))
    have hne : ((n : Int) != (n' : Int)) = true := by simp; omega
    clear hnn
    go_enter Try.func48, Try.ntmps48
    go_wp2
    go_ret
    exact ⟨Kit.ret_bool (by rw [HQ.out]), Below.refl _ _⟩
  subst hnn
  have hne : ((n : Int) != (n : Int)) = false := by simp
  go_enter Try.func48, Try.ntmps48
  go_wp2
  go_loopw [5] (fun iv wr => ∃ i : Nat, i ≤ n ∧ iv = .int .i64 i ∧ (∀ j, j < i → os.getD j Opr.z = os'.getD j Opr.z) ∧ Below w.heap.size w wr) (fun i _ => n - (intOf i).toNat)
  case atStart => exact ⟨0, by omega, by go_num, fun j hj => absurd hj (Nat.not_lt_zero j), Below.refl _ _⟩
  case round =>
    obtain ⟨i, hi, rfl, hsm, hB⟩ := hrel
    have Hsm := Lib.hid hsm
    have HB := Lib.hid hB
    have HO := Lib.hid (H.out.to_below hB)
    have HO' := Lib.hid (H'.out.to_below hB)
    clear hB hsm
    by_cases hlt : i < n
    · obtain ⟨ad, P, pq, rfl, y0, y1, y2, y3, y4, hI⟩ := HO.out.at_ hlt
      obtain ⟨bd, P', pq', rfl, z0, z1, z2, z3, z4, hI'⟩ := HO'.out.at_ hlt
      have HPi := Lib.hid (HP.out i)
      have HPi' := Lib.hid (HP'.out i)
      have HE := Lib.hid (show ∀ r, Opr.same (os.getD i Opr.z) (os'.getD i Opr.z) = r → (r = true → os.getD i Opr.z = os'.getD i Opr.z) ∧ (r = false → decide (os = os') = false) from fun r hr => ⟨fun e => (Opr.same_iff _ _).1 (hr.trans e), fun e => decide_eq_false (fun e2 => by rw [e2, (Opr.same_iff _ _).2 rfl] at hr; rw [← hr] at e; cases e)⟩)
      obtain ⟨o, ho⟩ : ∃ o, o = os.getD i Opr.z := ⟨_, rfl⟩
      obtain ⟨o', ho'⟩ : ∃ o', o' = os'.getD i Opr.z := ⟨_, rfl⟩
      rw [← ho] at y0 y1 y2 y3 y4 HPi hI HE
      rw [← ho'] at z0 z1 z2 z3 z4 HPi' hI' HE
      have HOO := Lib.hid (And.intro ho ho')
      clear ho ho'
      obtain ⟨K, p, Ka, Kf, Kz⟩ := o
      obtain ⟨K', p', Ka', Kf', Kz'⟩ := o'
      dsimp only at y0 y1 y2 y3 y4 z0 z1 z2 z3 z4 HPi HPi' hI hI' HE HOO
      have HI := Lib.hid hI
      have HI' := Lib.hid hI'
      have b0 : (0 : Int) ≤ (i : Int) := by omega
      have b1 : (i : Int) < (n : Int) := by omega
      obtain ⟨r, hr⟩ : ∃ r, r = Opr.same ⟨K, p, Ka, Kf, Kz⟩ ⟨K', p', Ka', Kf', Kz'⟩ := ⟨_, rfl⟩
      have HE2 := Lib.hid (HE.out r hr.symm)
      have S0 := Lib.hid (show wr.drew.cell? (ad.add (i * 5)) = some (.int .i64 K) ∧ wr.drew.cell? ⟨(ad.add (i * 5)).block, (ad.add (i * 5)).off + 1, none⟩ = some (.slice P p.length pq) ∧ wr.drew.cell? ⟨(ad.add (i * 5)).block, (ad.add (i * 5)).off + 2, none⟩ = some (.int .i64 Ka) ∧ wr.drew.cell? ⟨(ad.add (i * 5)).block, (ad.add (i * 5)).off + 3, none⟩ = some (.int .i64 Kf) ∧ wr.drew.cell? ⟨(ad.add (i * 5)).block, (ad.add (i * 5)).off + 4, none⟩ = some (.int .i64 Kz) ∧ wr.drew.cell? (bd.add (i * 5)) = some (.int .i64 K') ∧ wr.drew.cell? ⟨(bd.add (i * 5)).block, (bd.add (i * 5)).off + 1, none⟩ = some (.slice P' p'.length pq') ∧ wr.drew.cell? ⟨(bd.add (i * 5)).block, (bd.add (i * 5)).off + 2, none⟩ = some (.int .i64 Ka') ∧ wr.drew.cell? ⟨(bd.add (i * 5)).block, (bd.add (i * 5)).off + 3, none⟩ = some (.int .i64 Kf') ∧ wr.drew.cell? ⟨(bd.add (i * 5)).block, (bd.add (i * 5)).off + 4, none⟩ = some (.int .i64 Kz') ∧ BelA wr wr.drew from ⟨y0, y1, y2, y3, y4, z0, z1, z2, z3, z4, (Drawn.refl _).drew.toBelow⟩)
      have CE := Lib.hid (fun (wq : World) (hb : Below wr.heap.size wr wq) => l15Same_any K Ka Kf Kz K' Ka' Kf' Kz' p p' P P' p.length pq p'.length pq' wq (HI.out.to_below hb) (HI'.out.to_below hb) HPi.out HPi'.out)
      rw [← hr] at CE
      clear hI hI' y0 y1 y2 y3 y4 z0 z1 z2 z3 z4 hr
      go_wp2_with fail
      go_region_held3 (fun wq => wq.cell? (ad.add (i * 5)) = some (.int .i64 K) ∧ wq.cell? ⟨(ad.add (i * 5)).block, (ad.add (i * 5)).off + 1, none⟩ = some (.slice P p.length pq) ∧ wq.cell? ⟨(ad.add (i * 5)).block, (ad.add (i * 5)).off + 2, none⟩ = some (.int .i64 Ka) ∧ wq.cell? ⟨(ad.add (i * 5)).block, (ad.add (i * 5)).off + 3, none⟩ = some (.int .i64 Kf) ∧ wq.cell? ⟨(ad.add (i * 5)).block, (ad.add (i * 5)).off + 4, none⟩ = some (.int .i64 Kz) ∧ wq.cell? (bd.add (i * 5)) = some (.int .i64 K') ∧ wq.cell? ⟨(bd.add (i * 5)).block, (bd.add (i * 5)).off + 1, none⟩ = some (.slice P' p'.length pq') ∧ wq.cell? ⟨(bd.add (i * 5)).block, (bd.add (i * 5)).off + 2, none⟩ = some (.int .i64 Ka') ∧ wq.cell? ⟨(bd.add (i * 5)).block, (bd.add (i * 5)).off + 3, none⟩ = some (.int .i64 Kf') ∧ wq.cell? ⟨(bd.add (i * 5)).block, (bd.add (i * 5)).off + 4, none⟩ = some (.int .i64 Kz') ∧ BelA wr wq) (first | (with_reducible exact SD) | (with_reducible exact S0.out)) (first | (go_at_call 106; refine (CE.out _ (c10_below (by assumption))).mono ?_; rintro e w5 ⟨rfl, hb5⟩; have SD := c10_keep S0.out hb5))
      have HB2 := Lib.hid (HB.out.trans ((c10_below SD).mono HB.out.size))
      clear SD
      cases r with
      | true =>
        have HQ := Lib.hid (HE2.out.1 rfl)
        go_wp2
        go_roundw
        case rel => exact ⟨i + 1, by omega, by go_num, fun j hj => by
          rcases Nat.lt_succ_iff_lt_or_eq.1 hj with h' | rfl
          · exact Hsm.out j h'
          · rw [← HOO.out.1, ← HOO.out.2]; exact HQ.out, HB2.out⟩
        case measure => simp [intOf]; omega
      | false =>
        have HQ := Lib.hid (HE2.out.2 rfl)
        go_wp2
        go_ret
        exact ⟨Kit.ret_bool (by rw [HQ.out]), HB2.out⟩
    · obtain rfl : i = n := by omega
      have HQ := Lib.hid (show decide (os = os') = true from decide_eq_true (Os.ext (by rw [HL.out, HL'.out]) (fun k hk => Hsm.out k (by rw [HL.out] at hk; exact hk))))
      go_wp2
      go_ret
      exact ⟨Kit.ret_bool (by rw [HQ.out]), HB.out⟩

end Go.Proofs.Ytgkkeejhfofcaaa

/- Contracts (SmI). -/
namespace Go.Proofs.Ytgkkeejhfofcaaa
open Go.RowKit
set_option linter.unusedVariables false

set_option maxHeartbeats 800000 in
set_option maxRecDepth 100000 in
theorem slEqI_any (A A' : Option Addr) (n c n' c' : Nat) (xs ys : List Int) (w : World) (h : IntIn w w.heap.size A n xs) (h' : IntIn w w.heap.size A' n' ys) (hn : n ≤ 1048576) (hn' : n' ≤ 1048576) :
    Calls Try.prog 146 #[.slice A n c, .slice A' n' c'] w fun e w' => e = .returned (.bool (decide (xs = ys))) ∧ Drawn w w' := by
  have H := Lib.hid h
  have H' := Lib.hid h'
  clear h h'
  have HL := Lib.hid H.out.1
  have HL' := Lib.hid H'.out.1
  by_cases hnn : n = n'
  · go_enter Try.func146, Try.ntmps146
    have Hnn := Lib.hid hnn
    have hne : ((n : Int) != (n' : Int)) = false := by simp [hnn]
    clear hnn
    go_wp2
    go_loopw [13] (fun iv wr => ∃ k : Nat, k ≤ n ∧ iv = .int .i64 k ∧ (∀ j, j < k → Zs.at xs j = Zs.at ys j) ∧ Drawn w wr) (fun i _ => n - (intOf i).toNat)
    case atStart => exact ⟨0, by omega, rfl, fun j hj => absurd hj (by omega), Drawn.refl _⟩
    case round =>
      obtain ⟨k, hk, rfl, hsm, hD⟩ := hrel
      have Hsm := Lib.hid hsm
      clear hsm
      by_cases hlt : k < n
      · obtain ⟨ad, rfl, hb, hl⟩ := (H.out.drawn hD).at_ hlt
        obtain ⟨ad', rfl, hb', hl'⟩ := (H'.out.drawn hD).at_ (k := k) (by rw [← Hnn.out]; exact hlt)
        have hlt' : (k : Int) < (n' : Int) := by rw [← Hnn.out]; omega
        have hk0 : (0 : Int) ≤ (k : Int) := by omega
        by_cases hq1 : Zs.at xs k = Zs.at ys k
        · have Hq := Lib.hid hq1
          have q1 : (Zs.at xs k != Zs.at ys k) = false := by simpa using hq1
          clear hq1
          go_wp2
          go_quiet (fail)
          go_wp2
          go_roundw
          case rel => exact ⟨k + 1, by omega, by go_num, fun j hj => by
            rcases Nat.lt_succ_iff_lt_or_eq.1 hj with h' | rfl
            · exact Hsm.out j h'
            · exact Hq.out, hD.drewN _⟩
          case measure => simp [intOf]; omega
        · have Hq := Lib.hid hq1
          have q1 : (Zs.at xs k != Zs.at ys k) = true := by simpa using hq1
          clear hq1
          go_wp2
          go_quiet (fail)
          go_wp2
          go_ret
          refine ⟨Kit.ret_bool ?_, hD.drewN _⟩
          symm
          rw [decide_eq_false_iff_not]
          rintro rfl
          exact Hq.out rfl
      · obtain rfl : k = n := by omega
        go_wp2
        go_ret
        refine ⟨Kit.ret_bool ?_, hD⟩
        symm
        rw [decide_eq_true_eq]
        exact Zs.ext (by rw [HL.out, HL'.out]; exact Hnn.out) (fun j hj => Hsm.out j (by rw [← HL.out]; exact hj))
  · have hne : ((n : Int) != (n' : Int)) = true := by simp; omega
    have Hq := Lib.hid (show decide (xs = ys) = false by
      rw [decide_eq_false_iff_not]; rintro rfl; exact hnn (HL.out.symm.trans HL'.out))
    clear hnn
    go_enter Try.func146, Try.ntmps146
    go_wp2
    go_ret
    exact ⟨Kit.ret_bool Hq.out.symm, Drawn.refl _⟩

end Go.Proofs.Ytgkkeejhfofcaaa
