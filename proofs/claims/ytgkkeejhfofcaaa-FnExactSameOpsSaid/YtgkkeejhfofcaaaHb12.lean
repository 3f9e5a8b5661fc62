/- Texts of one claim laid into one file, in build order: SopI, SosI, OsH, C5. -/
import Derived.Test.YtgkkeejhfofcaaaHb10
import Derived.Test.YtgkkeejhfofcaaaHb11
import Derived.Deep.RegionHeld3
import Derived.Laws.Entries
import Derived.Laws.MakeOwn
/- Contracts (SopI). -/
namespace Go.Proofs.Ytgkkeejhfofcaaa
open Go.RowKit
set_option linter.unusedVariables false

set_option maxHeartbeats 3200000 in
set_option maxRecDepth 100000 in
theorem sameOp_any (k a f z k' a' f' z' : Int) (p p' : List Int) (P P' : Option Addr) (m q m' q' : Nat) (w : World) (h : IntIn w w.heap.size P m p) (h' : IntIn w w.heap.size P' m' p') (hm : m ≤ 1048576) (hm' : m' ≤ 1048576) :
    Calls Try.prog 108 #[.agg #[.int .i64 k, .slice P m q, .int .i64 a, .int .i64 f, .int .i64 z], .agg #[.int .i64 k', .slice P' m' q', .int .i64 a', .int .i64 f', .int .i64 z']] w fun e w' => e = .returned (.bool (Opr.same ⟨k, p, a, f, z⟩ ⟨k', p', a', f', z'⟩)) ∧ Below w.heap.size w w' := by
  have H := Lib.hid h
  have H' := Lib.hid h'
  clear h h'
  obtain ⟨o1, ho1⟩ : ∃ o, o = Obj.cells #[.int .i64 k, .slice P m q, .int .i64 a, .int .i64 f, .int .i64 z] 39 := ⟨_, rfl⟩
  obtain ⟨o2, ho2⟩ : ∃ o, o = Obj.cells #[.int .i64 k', .slice P' m' q', .int .i64 a', .int .i64 f', .int .i64 z'] 39 := ⟨_, rfl⟩
  obtain ⟨s, hs⟩ : ∃ s, s = w.heap.size := ⟨_, rfl⟩
  have hx0 : Bx5 (w.alloc o1) s (.int .i64 k) (.slice P m q) (.int .i64 a) (.int .i64 f) (.int .i64 z) := by rw [ho1, hs]; exact Bx5.made _ _ _ _ _ _ _
  have s1 : (w.alloc o1).heap.size = s + 1 := by rw [hs]; simp
  have hb1 := (Below.refl w.heap.size w).alloc (Nat.le_refl _) o1
  have hb2 := hb1.alloc hb1.size o2
  have hz0 : Bx5 ((w.alloc o1).alloc o2) (s + 1) (.int .i64 k') (.slice P' m' q') (.int .i64 a') (.int .i64 f') (.int .i64 z') := by rw [← s1, ho2]; exact Bx5.made _ _ _ _ _ _ _
  obtain ⟨wa, hwa⟩ : ∃ wa, wa = (w.alloc o1).alloc o2 := ⟨_, rfl⟩
  have ha1 : Below (w.alloc o1).heap.size (w.alloc o1) wa := by rw [hwa]; exact (Below.refl _ _).alloc (Nat.le_refl _) o2
  have HX := Lib.hid (hx0.below ha1 (by omega))
  rw [← hwa] at hz0 hb2
  have HZ := Lib.hid hz0
  have HB := Lib.hid hb2
  have HS := Lib.hid hs
  have HW := Lib.hid hwa
  have HI := Lib.hid (H.out.to_below HB.out)
  have HI' := Lib.hid (H'.out.to_below HB.out)
  have HE := Lib.hid ((fun A A' n c n' c' x y wq h h' hn hn' => slEqI_any A A' n c n' c' x y wq h h' hn hn') P P' m q m' q' p p' wa HI.out HI'.out hm hm')
  clear hx0 hz0 hb1 hb2 s1 ha1 hwa
  subst ho1
  subst ho2
  clear hs
  obtain ⟨r, hr⟩ : ∃ r, r = Opr.same ⟨k, p, a, f, z⟩ ⟨k', p', a', f', z'⟩ := ⟨_, rfl⟩
  rw [← hr]
  have HR := Lib.hid hr
  clear hr
  by_cases ck : k = k'
  rotate_left
  · have ek : (k == k') = false := by simp [ck]
    have HQ := Lib.hid (show r = false by rw [HR.out]; simp [Opr.same, ck])
    clear ck
    go_enter Try.func108, Try.ntmps108
    have hx := HX.out.1
    have hz := HZ.out.1
    rw [HW.out, HS.out] at hx hz
    go_wp2
    go_ret
    exact ⟨Kit.ret_bool (by rw [HQ.out]), by rw [← HW.out]; exact HB.out⟩
  by_cases cp : p = p'
  rotate_left
  · have ek : (k == k') = true := by simp [ck]
    have HQ := Lib.hid (show r = false by rw [HR.out]; simp [Opr.same, ck, cp])
    have qq : decide (p = p') = false := decide_eq_false cp
    clear ck cp
    go_enter Try.func108, Try.ntmps108
    have hx := HX.out.1
    have hz := HZ.out.1
    have hx1 := HX.out.2.1
    have hz1 := HZ.out.2.1
    rw [HW.out, HS.out] at hx hz hx1 hz1
    go_wp2_with fail
    rw [← HW.out]
    refine HE.out.mono ?_
    rintro e w1 ⟨rfl, hd⟩
    rw [qq]
    have hb := hd.toBelow (B := wa.heap.size)
    obtain ⟨x0, x1, x2, x3, x4⟩ := HX.out.keep hb
    obtain ⟨y0, y1, y2, y3, y4⟩ := HZ.out.keep hb
    rw [HS.out] at x0 x1 x2 x3 x4 y0 y1 y2 y3 y4
    have HB1 := Lib.hid (HB.out.trans (hb.mono HB.out.size))
    clear hb hd qq hx hz hx1 hz1
    go_wp2
    go_ret
    exact ⟨Kit.ret_bool (by rw [HQ.out]), HB1.out⟩
  by_cases ca : a = a'
  rotate_left
  · have ek : (k == k') = true := by simp [ck]
    have ea : (a == a') = false := by simp [ca]
    have HQ := Lib.hid (show r = false by rw [HR.out]; simp [Opr.same, ck, cp, ca])
    have qq : decide (p = p') = true := decide_eq_true cp
    clear ck cp ca
    go_enter Try.func108, Try.ntmps108
    have hx := HX.out.1
    have hz := HZ.out.1
    have hx1 := HX.out.2.1
    have hz1 := HZ.out.2.1
    rw [HW.out, HS.out] at hx hz hx1 hz1
    go_wp2_with fail
    rw [← HW.out]
    refine HE.out.mono ?_
    rintro e w1 ⟨rfl, hd⟩
    rw [qq]
    have hb := hd.toBelow (B := wa.heap.size)
    obtain ⟨x0, x1, x2, x3, x4⟩ := HX.out.keep hb
    obtain ⟨y0, y1, y2, y3, y4⟩ := HZ.out.keep hb
    rw [HS.out] at x0 x1 x2 x3 x4 y0 y1 y2 y3 y4
    have HB1 := Lib.hid (HB.out.trans (hb.mono HB.out.size))
    clear hb hd qq hx hz hx1 hz1
    go_wp2
    go_ret
    exact ⟨Kit.ret_bool (by rw [HQ.out]), HB1.out⟩
  by_cases cf : f = f'
  rotate_left
  · have ek : (k == k') = true := by simp [ck]
    have ea : (a == a') = true := by simp [ca]
    have ef : (f == f') = false := by simp [cf]
    have HQ := Lib.hid (show r = false by rw [HR.out]; simp [Opr.same, ck, cp, ca, cf])
    have qq : decide (p = p') = true := decide_eq_true cp
    clear ck cp ca cf
    go_enter Try.func108, Try.ntmps108
    have hx := HX.out.1
    have hz := HZ.out.1
    have hx1 := HX.out.2.1
    have hz1 := HZ.out.2.1
    rw [HW.out, HS.out] at hx hz hx1 hz1
    go_wp2_with fail
    rw [← HW.out]
    refine HE.out.mono ?_
    rintro e w1 ⟨rfl, hd⟩
    rw [qq]
    have hb := hd.toBelow (B := wa.heap.size)
    obtain ⟨x0, x1, x2, x3, x4⟩ := HX.out.keep hb
    obtain ⟨y0, y1, y2, y3, y4⟩ := HZ.out.keep hb
    rw [HS.out] at x0 x1 x2 x3 x4 y0 y1 y2 y3 y4
    have HB1 := Lib.hid (HB.out.trans (hb.mono HB.out.size))
    clear hb hd qq hx hz hx1 hz1
    go_wp2
    go_ret
    exact ⟨Kit.ret_bool (by rw [HQ.out]), HB1.out⟩
  by_cases cz : z = z'
  rotate_left
  · have ek : (k == k') = true := by simp [ck]
    have ea : (a == a') = true := by simp [ca]
    have ef : (f == f') = true := by simp [cf]
    have ez : (z == z') = false := by simp [cz]
    have HQ := Lib.hid (show r = false by rw [HR.out]; simp [Opr.same, ck, cp, ca, cf, cz])
    have qq : decide (p = p') = true := decide_eq_true cp
    clear ck cp ca cf cz
    go_enter Try.func108, Try.ntmps108
    have hx := HX.out.1
    have hz := HZ.out.1
    have hx1 := HX.out.2.1
    have hz1 := HZ.out.2.1
    rw [HW.out, HS.out] at hx hz hx1 hz1
    go_wp2_with fail
    rw [← HW.out]
    refine HE.out.mono ?_
    rintro e w1 ⟨rfl, hd⟩
    rw [qq]
    have hb := hd.toBelow (B := wa.heap.size)
    obtain ⟨x0, x1, x2, x3, x4⟩ := HX.out.keep hb
    obtain ⟨y0, y1, y2, y3, y4⟩ := HZ.out.keep hb
    rw [HS.out] at x0 x1 x2 x3 x4 y0 y1 y2 y3 y4
    have HB1 := Lib.hid (HB.out.trans (hb.mono HB.out.size))
    clear hb hd qq hx hz hx1 hz1
    go_wp2
    go_ret
    exact ⟨Kit.ret_bool (by rw [HQ.out]), HB1.out⟩
  have ek : (k == k') = true := by simp [ck]
  have ea : (a == a') = true := by simp [ca]
  have ef : (f == f') = true := by simp [cf]
  have ez : (z == z') = true := by simp [cz]
  have HQ := Lib.hid (show r = true by rw [HR.out]; simp [Opr.same, ck, cp, ca, cf, cz])
  have qq : decide (p = p') = true := decide_eq_true cp
  clear ck cp ca cf cz
  go_enter Try.func108, Try.ntmps108
  have hx := HX.out.1
  have hz := HZ.out.1
  have hx1 := HX.out.2.1
  have hz1 := HZ.out.2.1
  rw [HW.out, HS.out] at hx hz hx1 hz1
  go_wp2_with fail
  rw [← HW.out]
  refine HE.out.mono ?_
  rintro e w1 ⟨rfl, hd⟩
  rw [qq]
  have hb := hd.toBelow (B := wa.heap.size)
  obtain ⟨x0, x1, x2, x3, x4⟩ := HX.out.keep hb
  obtain ⟨y0, y1, y2, y3, y4⟩ := HZ.out.keep hb
  rw [HS.out] at x0 x1 x2 x3 x4 y0 y1 y2 y3 y4
  have HB1 := Lib.hid (HB.out.trans (hb.mono HB.out.size))
  clear hb hd qq hx hz hx1 hz1
  go_wp2
  go_ret
  exact ⟨Kit.ret_bool (by rw [HQ.out]), HB1.out⟩

end Go.Proofs.Ytgkkeejhfofcaaa

/- Contracts (SosI). -/
namespace Go.Proofs.Ytgkkeejhfofcaaa
open Go.RowKit
set_option linter.unusedVariables false

set_option maxHeartbeats 3200000 in
set_option maxRecDepth 100000 in
theorem equalFuncOps_any (A A' : Option Addr) (n n' c c' : Nat) (os os' : List Opr) (w : World) (h : OpsIn w w.heap.size A n os) (h' : OpsIn w w.heap.size A' n' os') (hn : n ≤ 1048576) (hn' : n' ≤ 1048576) (hp : ∀ i, (os.getD i Opr.z).p.length ≤ 1048576) (hp' : ∀ i, (os'.getD i Opr.z).p.length ≤ 1048576) :
    Calls Try.prog 107 #[.slice A n c, .slice A' n' c', .func (.func 108) #[] #[]] w fun e w' => e = .returned (.bool (decide (os = os'))) ∧ Below w.heap.size w w' := by
  have H := Lib.hid h
  have H' := Lib.hid h'
  have HP := Lib.hid hp
  have HP' := Lib.hid hp'
  clear h h' hp hp'
  have HL := Lib.hid H.out.1
  have HL' := Lib.hid H'.out.1
  by_cases hnn : n = n'
  rotate_left
  · have HQ := Lib.hid (show decide (os = os') = false from decide_eq_false (fun e => hnn (by rw [← HL.out, ← HL'.out, e])))
    have hne : ((n : Int) != (n' : Int)) = true := by simp; omega
    clear hnn
    go_enter Try.func107, Try.ntmps107
    go_wp2
    go_ret
    exact ⟨Kit.ret_bool (by rw [HQ.out]), Below.refl _ _⟩
  subst hnn
  have hne : ((n : Int) != (n : Int)) = false := by simp
  go_enter Try.func107, Try.ntmps107
  go_wp2
  go_loopw [17] (fun iv wr => ∃ i : Nat, i ≤ n ∧ iv = .int .i64 i ∧ (∀ j, j < i → os.getD j Opr.z = os'.getD j Opr.z) ∧ Below w.heap.size w wr) (fun i _ => n - (intOf i).toNat)
  case atStart => exact ⟨0, by omega, rfl, fun j hj => absurd hj (Nat.not_lt_zero j), Below.refl _ _⟩
  case round =>
    obtain ⟨i, hi, rfl, hsm, hB⟩ := hrel
    have Hsm := Lib.hid hsm
    have HB := Lib.hid hB
    have HO := Lib.hid (H.out.to_below hB)
    have HO' := Lib.hid (H'.out.to_below hB)
    clear hB hsm
    by_cases hlt : i < n
    · obtain ⟨ad, P, pq, rfl, y0, y1, y2, y3, y4, hI⟩ := HO.out.at_ hlt
      obtain ⟨bd, P', pq', rfl, z0, z1, z2, z3, z4, hI'⟩ := HO'.out.at_ hlt
      have HPi := Lib.hid (HP.out i)
      have HPi' := Lib.hid (HP'.out i)
      have HE := Lib.hid (show ∀ r, Opr.same (os.getD i Opr.z) (os'.getD i Opr.z) = r → (r = true → os.getD i Opr.z = os'.getD i Opr.z) ∧ (r = false → decide (os = os') = false) from fun r hr => ⟨fun e => (Opr.same_iff _ _).1 (hr.trans e), fun e => decide_eq_false (fun e2 => by rw [e2, (Opr.same_iff _ _).2 rfl] at hr; rw [← hr] at e; cases e)⟩)
      obtain ⟨o, ho⟩ : ∃ o, o = os.getD i Opr.z := ⟨_, rfl⟩
      obtain ⟨o', ho'⟩ : ∃ o', o' = os'.getD i Opr.z := ⟨_, rfl⟩
      rw [← ho] at y0 y1 y2 y3 y4 HPi hI HE
      rw [← ho'] at z0 z1 z2 z3 z4 HPi' hI' HE
      have HOO := Lib.hid (And.intro ho ho')
      clear ho ho'
      obtain ⟨K, p, Ka, Kf, Kz⟩ := o
      obtain ⟨K', p', Ka', Kf', Kz'⟩ := o'
      dsimp only at y0 y1 y2 y3 y4 z0 z1 z2 z3 z4 HPi HPi' hI hI' HE HOO
      have HI := Lib.hid hI
      have HI' := Lib.hid hI'
      have b0 : (0 : Int) ≤ (i : Int) := by omega
      have b1 : (i : Int) < (n : Int) := by omega
      obtain ⟨r, hr⟩ : ∃ r, r = Opr.same ⟨K, p, Ka, Kf, Kz⟩ ⟨K', p', Ka', Kf', Kz'⟩ := ⟨_, rfl⟩
      have HE2 := Lib.hid (HE.out r hr.symm)
      obtain ⟨wz, hwz⟩ : ∃ wz, wz = (wr.alloc (.cells #[.int .i64 K, .slice P p.length pq, .int .i64 Ka, .int .i64 Kf, .int .i64 Kz] 39)).alloc (.cells #[.int .i64 K', .slice P' p'.length pq', .int .i64 Ka', .int .i64 Kf', .int .i64 Kz'] 39) := ⟨_, rfl⟩
      have hbz : Below wr.heap.size wr wz := by rw [hwz]; exact ((Below.refl _ _).alloc (Nat.le_refl _) _).alloc (by simp) _
      have HBZ := Lib.hid hbz
      have HWZ := Lib.hid hwz
      have CE := Lib.hid (sameOp_any K Ka Kf Kz K' Ka' Kf' Kz' p p' P P' p.length pq p'.length pq' wz (HI.out.to_below hbz) (HI'.out.to_below hbz) HPi.out HPi'.out)
      rw [← hr] at CE
      have hbk := World.block_lt_of_cell? _ _ z0
      have z0' := (World.cell?_alloc_lt wr (.cells #[.int .i64 K, .slice P p.length pq, .int .i64 Ka, .int .i64 Kf, .int .i64 Kz] 39) (bd.add (i * 5)) hbk).trans z0
      have z1' := (World.cell?_alloc_lt wr (.cells #[.int .i64 K, .slice P p.length pq, .int .i64 Ka, .int .i64 Kf, .int .i64 Kz] 39) ⟨(bd.add (i * 5)).block, (bd.add (i * 5)).off + 1, none⟩ hbk).trans z1
      have z2' := (World.cell?_alloc_lt wr (.cells #[.int .i64 K, .slice P p.length pq, .int .i64 Ka, .int .i64 Kf, .int .i64 Kz] 39) ⟨(bd.add (i * 5)).block, (bd.add (i * 5)).off + 2, none⟩ hbk).trans z2
      have z3' := (World.cell?_alloc_lt wr (.cells #[.int .i64 K, .slice P p.length pq, .int .i64 Ka, .int .i64 Kf, .int .i64 Kz] 39) ⟨(bd.add (i * 5)).block, (bd.add (i * 5)).off + 3, none⟩ hbk).trans z3
      have z4' := (World.cell?_alloc_lt wr (.cells #[.int .i64 K, .slice P p.length pq, .int .i64 Ka, .int .i64 Kf, .int .i64 Kz] 39) ⟨(bd.add (i * 5)).block, (bd.add (i * 5)).off + 4, none⟩ hbk).trans z4
      clear hI hI' hr hwz hbz hbk z0 z1 z2 z3 z4
      go_wp2_with fail
      rw [← HWZ.out]
      refine CE.out.mono ?_
      rintro e w5 ⟨rfl, hb5⟩
      have HB2 := Lib.hid (HB.out.trans ((HBZ.out.trans (hb5.mono HBZ.out.size)).mono HB.out.size))
      clear hb5
      cases r with
      | true =>
        have HQ := Lib.hid (HE2.out.1 rfl)
        go_wp2
        go_roundw
        case rel => exact ⟨i + 1, by omega, by go_num, fun j hj => by
          rcases Nat.lt_succ_iff_lt_or_eq.1 hj with h' | rfl
          · exact Hsm.out j h'
          · rw [← HOO.out.1, ← HOO.out.2]; exact HQ.out, HB2.out⟩
        case measure => simp [intOf]; omega
      | false =>
        have HQ := Lib.hid (HE2.out.2 rfl)
        go_wp2
        go_ret
        exact ⟨Kit.ret_bool (by rw [HQ.out]), HB2.out⟩
    · obtain rfl : i = n := by omega
      have HQ := Lib.hid (show decide (os = os') = true from decide_eq_true (Os.ext (by rw [HL.out, HL'.out]) (fun k hk => Hsm.out k (by rw [HL.out] at hk; exact hk))))
      go_wp2
      go_ret
      exact ⟨Kit.ret_bool (by rw [HQ.out]), HB.out⟩
set_option maxHeartbeats 3200000 in
set_option maxRecDepth 100000 in
theorem implSameOps_any (A A' : Option Addr) (n n' c c' : Nat) (os os' : List Opr) (w : World) (h : OpsIn w w.heap.size A n os) (h' : OpsIn w w.heap.size A' n' os') (hn : n ≤ 1048576) (hn' : n' ≤ 1048576) (hp : ∀ i, (os.getD i Opr.z).p.length ≤ 1048576) (hp' : ∀ i, (os'.getD i Opr.z).p.length ≤ 1048576) :
    Calls Try.prog 49 #[.slice A n c, .slice A' n' c'] w fun e w' => e = .returned (.bool (decide (os = os'))) ∧ Below w.heap.size w w' := by
  obtain ⟨r, hr⟩ : ∃ r, r = decide (os = os') := ⟨_, rfl⟩
  have C := Lib.hid (equalFuncOps_any A A' n n' c c' os os' w h h' hn hn' hp hp')
  rw [← hr] at C ⊢
  clear h h' hp hp' hr
  go_enter Try.func49, Try.ntmps49
  go_wp2_with fail
  refine C.out.mono ?_
  rintro e w1 ⟨rfl, hb⟩
  have HB := Lib.hid hb
  clear hb
  go_wp2
  go_ret
  exact ⟨rfl, HB.out⟩

end Go.Proofs.Ytgkkeejhfofcaaa

/- Contracts (OsH). -/
namespace Go.Proofs.Ytgkkeejhfofcaaa
open Go.RowKit
set_option linter.unusedVariables false

/-- values and steps of the first i operations' paths -/
def Os.tot (os : List Opr) : Nat → Nat
  | 0 => 0
  | i + 1 => Os.tot os i + (os.getD i Opr.z).p.length
theorem Os.tot_mono (os : List Opr) {i j : Nat} (h : i ≤ j) : Os.tot os i ≤ Os.tot os j := by
  induction j with
  | zero => obtain rfl : i = 0 := by omega
            exact Nat.le_refl _
  | succ j ih =>
    rcases Nat.lt_or_ge i (j + 1) with h' | h'
    · have := ih (by omega)
      have e : Os.tot os (j + 1) = Os.tot os j + (os.getD j Opr.z).p.length := rfl
      omega
    · obtain rfl : i = j + 1 := by omega
      exact Nat.le_refl _
theorem Os.tot_one (os : List Opr) {i j : Nat} (h : i < j) : (os.getD i Opr.z).p.length ≤ Os.tot os j := by
  have := Os.tot_mono os (show i + 1 ≤ j from h)
  have e : Os.tot os (i + 1) = Os.tot os i + (os.getD i Opr.z).p.length := rfl
  omega
set_option maxHeartbeats 1600000 in
set_option maxRecDepth 100000 in
theorem szOpS_any (A : Option Addr) (n c : Nat) (os : List Opr) (left : Int) (w : World) (h : OpsIn w w.heap.size A n os) (hn : n ≤ 9223372036854775807) (hp : ∀ i, (os.getD i Opr.z).p.length ≤ 9223372036854775807) (h0 : 0 ≤ left) (h1 : left ≤ 1048576) :
    Calls Try.prog 41 #[.slice A n c, .int .i64 left] w fun e w' => e = .returned (.int .i64 (if ((n + Os.tot os n : Nat) : Int) ≤ left then left - ((n + Os.tot os n : Nat) : Int) else -1)) ∧ Below w.heap.size w w' := by
  have H := Lib.hid h
  have HP := Lib.hid hp
  clear h hp
  obtain ⟨N, hN⟩ : ∃ N, N = Os.tot os n := ⟨_, rfl⟩
  have HM := Lib.hid (show ∀ i, i ≤ n → Os.tot os i ≤ N from fun i hi => by rw [hN]; exact Os.tot_mono os hi)
  have HNN := Lib.hid hN.symm
  rw [← hN]
  obtain ⟨Z, hZ⟩ : ∃ Z : Int, Z = if ((n + N : Nat) : Int) ≤ left then left - ((n + N : Nat) : Int) else -1 := ⟨_, rfl⟩
  rw [← hZ]
  have HZ := Lib.hid hZ
  clear hN hZ
  have a5 : IntKind.i64.wrap (left - (n : Int)) = left - (n : Int) := Kit.w64 (by omega) (by omega)
  by_cases hb : left < (n : Int)
  · have q : decide (left - (n : Int) < 0) = true := decide_eq_true (by omega)
    go_enter Try.func41, Try.ntmps41
    go_wp2
    go_ret
    exact ⟨Kit.ret_int (by rw [HZ.out, if_neg (by omega)]), Below.refl _ _⟩
  · have q : decide (left - (n : Int) < 0) = false := decide_eq_false (by omega)
    go_enter Try.func41, Try.ntmps41
    go_wp2
    go_loopw [5, 1] (fun iv lv wr => ∃ i : Nat, i ≤ n ∧ iv = .int .i64 i ∧ lv = .int .i64 (left - (n : Int) - (Os.tot os i : Int)) ∧ (n : Int) + (Os.tot os i : Int) ≤ left ∧ Below w.heap.size w wr) (fun i _ _ => n - (intOf i).toNat)
    case atStart => exact ⟨0, by omega, by go_num, by simp [Os.tot], by simp [Os.tot]; omega, Below.refl _ _⟩
    case round =>
      obtain ⟨i, hi, rfl, rfl, hle, hB⟩ := hrel
      have HB := Lib.hid hB
      have HO := Lib.hid (H.out.to_below hB)
      have hti := HM.out i hi
      clear hB
      by_cases hlt : i < n
      · obtain ⟨ad, P, pq, rfl, y0, y1, y2, y3, y4, -⟩ := HO.out.at_ hlt
        have hts := HM.out (i + 1) hlt
        have HT := Lib.hid (show Os.tot os (i + 1) = Os.tot os i + (os.getD i Opr.z).p.length from rfl)
        have HPi := Lib.hid (HP.out i)
        obtain ⟨o, ho⟩ : ∃ o, o = os.getD i Opr.z := ⟨_, rfl⟩
        rw [← ho] at y0 y1 y2 y3 y4 HT HPi
        rw [HT.out] at hts
        clear ho
        obtain ⟨T, hT⟩ : ∃ T, T = Os.tot os i := ⟨_, rfl⟩
        obtain ⟨m, hm⟩ : ∃ m, m = o.p.length := ⟨_, rfl⟩
        rw [← hT, ← hm] at HT hts
        rw [← hT] at hle hti ⊢
        rw [← hm] at y1 HPi
        have Hm := Lib.hid hm
        have HTT := Lib.hid hT
        clear hT hm
        have b0 : (0 : Int) ≤ (i : Int) := by omega
        have b1 : (i : Int) < (n : Int) := by omega
        by_cases hc : (m : Int) ≤ left - (n : Int) - (T : Int)
        · go_wp2_with (go_loud (go_at_call 100; refine (szOp_any _ _ _ _ _ _ _ _ _ HPi.out (by omega) (by omega)).mono ?_; rintro e w2 ⟨rfl, hb2⟩; rw [if_pos hc]; have HB2 := Lib.hid (HB.out.trans (hb2.mono HB.out.size)); have q2 : decide (left - (n : Int) - (T : Int) - (m : Int) < 0) = false := (decide_eq_false (by omega))))
          go_roundw
          case rel => exact ⟨i + 1, by omega, by go_num, by rw [HT.out]; congr 1; omega, by rw [HT.out]; omega, HB2.out⟩
          case measure => simp [intOf]; omega
        · go_wp2_with (go_loud (go_at_call 100; refine (szOp_any _ _ _ _ _ _ _ _ _ HPi.out (by omega) (by omega)).mono ?_; rintro e w2 ⟨rfl, hb2⟩; rw [if_neg hc]; have HB2 := Lib.hid (HB.out.trans (hb2.mono HB.out.size))))
          go_ret
          exact ⟨Kit.ret_int (by rw [HZ.out, if_neg (by omega)]), HB2.out⟩
      · obtain rfl : i = n := by omega
        rw [HNN.out] at hle hti ⊢
        go_wp2
        go_ret
        exact ⟨Kit.ret_int (by rw [HZ.out, if_pos (by omega)]; omega), HB.out⟩

end Go.Proofs.Ytgkkeejhfofcaaa

/- Contracts (C5). -/
namespace Go.Proofs.Ytgkkeejhfofcaaa
open Go.RowKit
set_option linter.unusedVariables false

/-- cells of a row of n elements of five cells -/
def C5 (F : Nat → Nat → Value) (n : Nat) : List Value := (List.range (n * 5)).map fun p => F (p / 5) (p % 5)
theorem C5_len (F : Nat → Nat → Value) (n : Nat) : (C5 F n).length = n * 5 := by simp [C5]
theorem C5_get {F : Nat → Nat → Value} {n i j : Nat} (hi : i < n) (hj : j < 5) : (C5 F n)[i * 5 + j]? = some (F i j) := by
  have h : i * 5 + j < n * 5 := by omega
  unfold C5
  rw [List.getElem?_map, List.getElem?_range h]
  show some (F ((i * 5 + j) / 5) ((i * 5 + j) % 5)) = _
  rw [show (i * 5 + j) / 5 = i by omega, show (i * 5 + j) % 5 = j by omega]
theorem C5_ext {F G : Nat → Nat → Value} {n : Nat} (h : ∀ i j, i < n → j < 5 → F i j = G i j) : C5 F n = C5 G n := by
  unfold C5
  refine List.map_congr_left fun p hp => h _ _ ?_ ?_
  · have := List.mem_range.1 hp; omega
  · omega
/-- one cell stored -/
theorem C5_set {F : Nat → Nat → Value} {n i j : Nat} (hj : j < 5) (v : Value) : (C5 F n).set (i * 5 + j) v = C5 (fun a b => if a = i ∧ b = j then v else F a b) n := by
  refine List.ext_getElem (by simp [C5]) fun p h1 h2 => ?_
  rw [C5_len] at h2
  simp only [C5, List.getElem_set, List.getElem_map, List.getElem_range]
  by_cases e : i * 5 + j = p
  · rw [if_pos e, if_pos (by omega)]
  · rw [if_neg e, if_neg (by omega)]
theorem C5_set0 {F : Nat → Nat → Value} {n i : Nat} (v : Value) : (C5 F n).set (i * 5) v = C5 (fun a b => if a = i ∧ b = 0 then v else F a b) n := C5_set (j := 0) (by decide) v
/-- the cells of operations whose paths' values are given -/
def Opr.cell (o : Opr) (u : Value) : Nat → Value
  | 0 => .int .i64 o.k
  | 1 => u
  | 2 => .int .i64 o.a
  | 3 => .int .i64 o.f
  | _ => .int .i64 o.c
def Opr.zcell : Nat → Value
  | 1 => .slice none 0 0
  | _ => .int .i64 0
theorem own_c5 {w : World} {base n g cap : Nat} {e : TypeId} {F : Nat → Nat → Value} (h : w.ownsRow base e 5 (.slice (some ⟨g, 0, none⟩) n cap) n (C5 F n)) {i j : Nat} (hi : i < n) (hj : j < 5) : w.cell? ⟨g, i * 5 + j, none⟩ = some (F i j) := by
  rw [h.cellAt _ (by omega), C5_get hi hj]
theorem made_ops (n : Nat) : (madeCells (Value.agg #[.int .i64 0, .slice none 0 0, .int .i64 0, .int .i64 0, .int .i64 0]).cells (n * 5)).toList = C5 (fun _ j => Opr.zcell j) n := by
  refine List.ext_getElem (by simp [madeCells, C5]) fun p h1 h2 => ?_
  rw [C5_len] at h2
  simp only [C5, List.getElem_map, List.getElem_range]
  have h5 : p % 5 = 0 ∨ p % 5 = 1 ∨ p % 5 = 2 ∨ p % 5 = 3 ∨ p % 5 = 4 := by omega
  rcases h5 with h5 | h5 | h5 | h5 | h5 <;> simp [madeCells, h5, Value.cells, Opr.zcell]
theorem info_op5 : (Try.prog.info? 39).map (fun i => (i.zero, i.size, i.bytes)) = some (some (.agg #[.int .i64 0, .slice none 0 0, .int .i64 0, .int .i64 0, .int .i64 0]), 5, 56) := by kernel_rfl

end Go.Proofs.Ytgkkeejhfofcaaa
