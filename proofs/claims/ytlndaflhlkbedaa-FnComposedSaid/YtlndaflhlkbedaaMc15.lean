/- Texts of one claim laid into one file, in build order: Big, Cmp, ExCmp. -/
import Derived.Test.YtlndaflhlkbedaaMc1
import Derived.Test.YtlndaflhlkbedaaMc10
import Derived.Test.YtlndaflhlkbedaaMc12
import Derived.Test.YtlndaflhlkbedaaMc13
import Derived.Test.YtlndaflhlkbedaaMc14
import Derived.Test.YtlndaflhlkbedaaMc6
import Derived.Test.YtlndaflhlkbedaaMc7
import Derived.Test.YtlndaflhlkbedaaMc8
import Derived.Test.YtlndaflhlkbedaaMc9
import Derived.Test.YtlndaflhlkbedaaMg12
import Derived.Deep.RegionHeld3
import Derived.Outline
/- Laws over a code: codes that are too long; the code as bytes. -/
namespace Go.Proofs.Ytlndaflhlkbedaa
open Go.RowKit
set_option linter.unusedVariables false

set_option maxHeartbeats 400000 in
theorem big_small (a : Option Addr) (n cap : Nat) (h : (n : Int) ≤ 1048576) (w : World) :
    Calls Try.prog 14 #[.slice a n cap] w fun e w' => e = .returned (.bool false) ∧ w = w' := by
  go_enter Try.func14, Try.ntmps14
  go_wp2
  go_ret
  exact ⟨Kit.ret_bool (by simp; try omega), rfl⟩
set_option maxHeartbeats 400000 in
theorem big_big (a : Option Addr) (n cap : Nat) (h : (1048576 : Int) < n) (w : World) :
    Calls Try.prog 14 #[.slice a n cap] w fun e w' => e = .returned (.bool true) ∧ w = w' := by
  go_enter Try.func14, Try.ntmps14
  go_wp2
  go_ret
  exact ⟨Kit.ret_bool (by simp; try omega), rfl⟩

theorem code_of {w : World} {a : Option Addr} {n cap : Nat} {zs : List Int} (h : Kit.BytesIn w a n cap zs) : (zs.take n).length = n ∧ CodeIn w w.heap.size a (zs.take n) := by
  rcases h with ⟨rfl, rfl, rfl, rfl⟩ | ⟨x, rfl, hl, hm, hz, hcell, hwz⟩
  · exact ⟨rfl, fun j hj => by simp at hj⟩
  · have hlen : (zs.take n).length = n := by simp; omega
    refine ⟨hlen, fun j hj => ?_⟩
    have hj' : j < n := by omega
    have hc := hcell j (by omega)
    obtain ⟨b, off, spot⟩ := x
    have hspot : spot = none := by
      have := World.cell?_spot (hcell 0 (by omega))
      simpa [Addr.add] using this
    subst hspot
    have e : ((⟨b, off, none⟩ : Addr).add j) = ⟨b, off + j, none⟩ := by unfold Addr.add; split <;> simp_all
    rw [e] at hc
    have hg : (zs.take n).getD j 0 = zs.getD j 0 := by simp [List.getD, hj']
    refine ⟨b, off, rfl, ?_, by rw [hg]; exact hc, ?_⟩
    · rcases Nat.lt_or_ge b w.heap.size with h' | h'
      · exact h'
      · simp [World.cell?, Array.getElem?_eq_none h'] at hc
    · rw [hg]
      have hm : zs.getD j 0 ∈ zs := by
        rw [List.getD_eq_getElem?_getD, List.getElem?_eq_getElem (by omega)]
        exact List.getElem_mem _
      have := hwz _ hm
      simp only [List.getD_eq_getElem?_getD] at this ⊢
      simp [Lit.wf, IntKind.min, IntKind.max, IntKind.signed, IntKind.bits] at this
      omega


end Go.Proofs.Ytlndaflhlkbedaa

/- Contracts (Cmp). -/
namespace Go.Proofs.Ytlndaflhlkbedaa
open Go.RowKit
set_option linter.unusedVariables false

theorem Smz.turn {M : Tr} (h : Smz M) : Smz (Tr.turn M) := fun e he => by
  obtain ⟨u, hu, rfl⟩ := List.mem_map.1 he
  have := h u hu
  unfold Bd at this ⊢
  exact ⟨this.2, this.1⟩
set_option maxHeartbeats 3200000 in
set_option maxRecDepth 100000 in
theorem composed_any (k : Code) (w : World) (hcode : CodeIn w w.heap.size k.a k.cs) (hlen : k.cs.length ≤ 1048576) :
    Calls Try.prog 7 #[.slice k.a k.cs.length k.cap] w fun e w' => e = .returned (.bool true) ∧ Below w.heap.size w w' := by
  have HC := Lib.hid hcode
  clear hcode
  go_enter Try.func7, Try.ntmps7
  go_wp2_with fail
  refine (big_small _ _ _ (by omega) _).mono ?_
  rintro e w0 ⟨rfl, rfl⟩
  go_wp2_with fail
  refine (l10DrawMapCost_ex w k HC.out hlen).mono ?_
  rintro e w1 ⟨xs, ys, M, A, A', A'', n, n', n'', cp, cp', cp'', h0, h2, c0, c2, A1, n1, q1, K, rfl, ha, hb, hcp, hcp', hn, hn', hn1, hk, hm, hcp'', hn'', hsm, hbl⟩
  obtain ⟨a1, rfl, _⟩ := hk.2.1.2.1 (by rcases hn1 with h | h <;> omega)
  obtain ⟨wa, hwa⟩ : ∃ wb, wb = w1.alloc (.cells #[.slice (some ⟨h0, 0, none⟩) 6 c0, .slice (some a1) n1 q1, .slice (some ⟨h2, 0, none⟩) 36 c2] 27) := ⟨_, rfl⟩
  have hba : Below w1.heap.size w1 wa := by rw [hwa]; exact (Below.refl _ _).alloc (Nat.le_refl _) _
  have HN0 := Lib.hid (ha.to_below hba)
  have HN1 := Lib.hid (hb.to_below hba)
  have HM := Lib.hid (hm.to_below hba)
  have HK := Lib.hid (hk.to_below hba)
  have HW := Lib.hid (hbl.trans (hba.mono hbl.size))
  have HQ := Lib.hid (show Box3 wa w1.heap.size (.slice (some ⟨h0, 0, none⟩) 6 c0) (.slice (some a1) n1 q1) (.slice (some ⟨h2, 0, none⟩) 36 c2) by rw [hwa]; exact Box3.made _ _ _ _ _)
  have Hwa := Lib.hid hwa
  have L0 := Lib.hid (show xs.length ≤ 31 by rw [ha.1]; exact hn)
  have L1 := Lib.hid (show ys.length ≤ 31 by rw [hb.1]; exact hn')
  have ML2 := Lib.hid hm.1
  have ML := Lib.hid (show M.length ≤ 33 by rw [hm.1]; exact hn'')
  have SM := Lib.hid hsm
  have HNN := Lib.hid hn1
  have hN1 : n1 ≤ 1048576 := by rcases hn1 with h | h <;> omega
  have hs0 : n ≤ 1048576 := by omega
  have hs1 : n' ≤ 1048576 := by omega
  have hs2 : n'' ≤ 1048576 := by omega
  have HBX := Lib.hid (show w1.heap.size < wa.heap.size by rw [hwa]; simp)
  clear ha hb hk hbl hba hwa hm hsm hn1
  go_wp2_with fail
  rw [← Hwa.out]
  refine (implTurned_any _ _ _ M _ HM.out hs2).mono ?_
  rintro e wb ⟨At, ct, rfl, hot, hbb⟩
  obtain ⟨T, hT⟩ : ∃ x, x = Tr.turn M := ⟨_, rfl⟩
  rw [← hT] at hot ⊢
  have HT := Lib.hid hot
  have HTT := Lib.hid hT
  have HTL := Lib.hid (show T.length ≤ 33 by rw [hT]; have := ML.out; simpa [Tr.turn] using this)
  have HTO := Lib.hid (show Mp.ok ys xs T = Mp.ok xs ys M by rw [hT]; exact Mp.ok_turn)
  have STT := Lib.hid (show Smz T by rw [hT]; exact SM.out.turn)
  clear hot hT Hwa HC
  have HN0 := Lib.hid (HN0.out.to_below hbb)
  have HN1 := Lib.hid (HN1.out.to_below hbb)
  have HM := Lib.hid (HM.out.to_below hbb)
  have HK := Lib.hid (HK.out.to_below hbb)
  have HQ := Lib.hid (HQ.out.below hbb HBX.out)
  have HBX := Lib.hid (Nat.lt_of_lt_of_le HBX.out hbb.size)
  have HW := Lib.hid (HW.out.trans (hbb.mono HW.out.size))
  clear hbb
  have CT := Lib.hid (fun (wq : World) (h : NdIn wq wq.heap.size At T.length T) => show Calls Try.prog 45 #[.slice At T.length ct] wq (OwnNodes 55 M wq) from by
    have q := implTurned_any At T.length ct T wq h (by have := HTL.out; omega)
    rw [show Tr.turn T = M by rw [HTT.out]; exact turn_turn M] at q
    exact q)
  have CS := Lib.hid (fun (wq : World) (Au : Option Addr) (cu : Nat) (h : NdIn wq wq.heap.size Au M.length M) (h' : NdIn wq wq.heap.size A'' n'' M) => show Calls Try.prog 42 #[.slice Au M.length cu, .slice A'' n'' cp''] wq fun e w' => e = .returned (.bool true) ∧ Drawn wq w' from by
    have q := specSameMap_any Au A'' M.length cu n'' cp'' M M wq h (by have := ML.out; omega) h' hs2
    rw [show decide (M = M) = true from decide_eq_true rfl] at q
    exact q)
  cases hok : Mp.ok xs ys M with
  | false =>
    go_wp2_with fail
    refine (specMapOk_any _ _ _ _ _ _ _ _ _ xs ys M _ HN0.out HN1.out HM.out hs0 hs1 hs2).mono ?_
    rintro e wc ⟨rfl, hdr⟩
    have hbb := hdr.toBelow (B := wb.heap.size)
    clear hdr
    have HN0 := Lib.hid (HN0.out.to_below hbb)
    have HN1 := Lib.hid (HN1.out.to_below hbb)
    have HM := Lib.hid (HM.out.to_below hbb)
    have HK := Lib.hid (HK.out.to_below hbb)
    have HT := Lib.hid (own_below HT.out hbb)
    have HQ := Lib.hid (HQ.out.below hbb HBX.out)
    have HBX := Lib.hid (Nat.lt_of_lt_of_le HBX.out hbb.size)
    have HW := Lib.hid (HW.out.trans (hbb.mono HW.out.size))
    clear hbb
    rw [hok]
    go_wp2_with fail
    refine (specMapOk_any _ _ _ _ _ _ _ _ _ ys xs T _ HN1.out HN0.out (NdIn.of_own HT.out) hs1 hs0 (by have := HTL.out; omega)).mono ?_
    rintro e wd ⟨rfl, hdr⟩
    have hbb := hdr.toBelow (B := wc.heap.size)
    clear hdr
    have HN0 := Lib.hid (HN0.out.to_below hbb)
    have HN1 := Lib.hid (HN1.out.to_below hbb)
    have HM := Lib.hid (HM.out.to_below hbb)
    have HK := Lib.hid (HK.out.to_below hbb)
    have HT := Lib.hid (own_below HT.out hbb)
    have HQ := Lib.hid (HQ.out.below hbb HBX.out)
    have HBX := Lib.hid (Nat.lt_of_lt_of_le HBX.out hbb.size)
    have HW := Lib.hid (HW.out.trans (hbb.mono HW.out.size))
    clear hbb
    rw [HTO.out, hok]
    go_wp2_with fail
    refine (CT.out _ (NdIn.of_own HT.out)).mono ?_
    rintro e we ⟨Au, cu, rfl, hu, hbb⟩
    have HU := Lib.hid hu
    clear hu
    have HN0 := Lib.hid (HN0.out.to_below hbb)
    have HN1 := Lib.hid (HN1.out.to_below hbb)
    have HM := Lib.hid (HM.out.to_below hbb)
    have HK := Lib.hid (HK.out.to_below hbb)
    have HT := Lib.hid (own_below HT.out hbb)
    have HQ := Lib.hid (HQ.out.below hbb HBX.out)
    have HBX := Lib.hid (Nat.lt_of_lt_of_le HBX.out hbb.size)
    have HW := Lib.hid (HW.out.trans (hbb.mono HW.out.size))
    clear hbb
    go_wp2_with fail
    refine (CS.out _ _ _ (NdIn.of_own HU.out) HM.out).mono ?_
    rintro e wf ⟨rfl, hdr⟩
    have hbb := hdr.toBelow (B := we.heap.size)
    clear hdr
    have HN0 := Lib.hid (HN0.out.to_below hbb)
    have HN1 := Lib.hid (HN1.out.to_below hbb)
    have HM := Lib.hid (HM.out.to_below hbb)
    have HK := Lib.hid (HK.out.to_below hbb)
    have HT := Lib.hid (own_below HT.out hbb)
    have HU := Lib.hid (own_below HU.out hbb)
    have HQ := Lib.hid (HQ.out.below hbb HBX.out)
    have HBX := Lib.hid (Nat.lt_of_lt_of_le HBX.out hbb.size)
    have HW := Lib.hid (HW.out.trans (hbb.mono HW.out.size))
    clear hbb
    clear HU
    go_wp2_with fail
    refine (specMapOk_any _ _ _ _ _ _ _ _ _ xs ys M _ HN0.out HN1.out HM.out hs0 hs1 hs2).mono ?_
    rintro e wg ⟨rfl, hdr⟩
    have hbb := hdr.toBelow (B := wf.heap.size)
    clear hdr
    have HN0 := Lib.hid (HN0.out.to_below hbb)
    have HN1 := Lib.hid (HN1.out.to_below hbb)
    have HM := Lib.hid (HM.out.to_below hbb)
    have HK := Lib.hid (HK.out.to_below hbb)
    have HT := Lib.hid (own_below HT.out hbb)
    have HQ := Lib.hid (HQ.out.below hbb HBX.out)
    have HBX := Lib.hid (Nat.lt_of_lt_of_le HBX.out hbb.size)
    have HW := Lib.hid (HW.out.trans (hbb.mono HW.out.size))
    clear hbb
    rw [hok]
    go_wp2
    go_ret
    exact ⟨rfl, HW.out⟩
  | true =>
    go_wp2_with fail
    refine (specMapOk_any _ _ _ _ _ _ _ _ _ xs ys M _ HN0.out HN1.out HM.out hs0 hs1 hs2).mono ?_
    rintro e wc ⟨rfl, hdr⟩
    have hbb := hdr.toBelow (B := wb.heap.size)
    clear hdr
    have HN0 := Lib.hid (HN0.out.to_below hbb)
    have HN1 := Lib.hid (HN1.out.to_below hbb)
    have HM := Lib.hid (HM.out.to_below hbb)
    have HK := Lib.hid (HK.out.to_below hbb)
    have HT := Lib.hid (own_below HT.out hbb)
    have HQ := Lib.hid (HQ.out.below hbb HBX.out)
    have HBX := Lib.hid (Nat.lt_of_lt_of_le HBX.out hbb.size)
    have HW := Lib.hid (HW.out.trans (hbb.mono HW.out.size))
    clear hbb
    rw [hok]
    go_wp2_with fail
    refine (specMapOk_any _ _ _ _ _ _ _ _ _ ys xs T _ HN1.out HN0.out (NdIn.of_own HT.out) hs1 hs0 (by have := HTL.out; omega)).mono ?_
    rintro e wd ⟨rfl, hdr⟩
    have hbb := hdr.toBelow (B := wc.heap.size)
    clear hdr
    have HN0 := Lib.hid (HN0.out.to_below hbb)
    have HN1 := Lib.hid (HN1.out.to_below hbb)
    have HM := Lib.hid (HM.out.to_below hbb)
    have HK := Lib.hid (HK.out.to_below hbb)
    have HT := Lib.hid (own_below HT.out hbb)
    have HQ := Lib.hid (HQ.out.below hbb HBX.out)
    have HBX := Lib.hid (Nat.lt_of_lt_of_le HBX.out hbb.size)
    have HW := Lib.hid (HW.out.trans (hbb.mono HW.out.size))
    clear hbb
    rw [HTO.out, hok]
    go_wp2_with fail
    refine (CT.out _ (NdIn.of_own HT.out)).mono ?_
    rintro e we ⟨Au, cu, rfl, hu, hbb⟩
    have HU := Lib.hid hu
    clear hu
    have HN0 := Lib.hid (HN0.out.to_below hbb)
    have HN1 := Lib.hid (HN1.out.to_below hbb)
    have HM := Lib.hid (HM.out.to_below hbb)
    have HK := Lib.hid (HK.out.to_below hbb)
    have HT := Lib.hid (own_below HT.out hbb)
    have HQ := Lib.hid (HQ.out.below hbb HBX.out)
    have HBX := Lib.hid (Nat.lt_of_lt_of_le HBX.out hbb.size)
    have HW := Lib.hid (HW.out.trans (hbb.mono HW.out.size))
    clear hbb
    go_wp2_with fail
    refine (CS.out _ _ _ (NdIn.of_own HU.out) HM.out).mono ?_
    rintro e wf ⟨rfl, hdr⟩
    have hbb := hdr.toBelow (B := we.heap.size)
    clear hdr
    have HN0 := Lib.hid (HN0.out.to_below hbb)
    have HN1 := Lib.hid (HN1.out.to_below hbb)
    have HM := Lib.hid (HM.out.to_below hbb)
    have HK := Lib.hid (HK.out.to_below hbb)
    have HT := Lib.hid (own_below HT.out hbb)
    have HU := Lib.hid (own_below HU.out hbb)
    have HQ := Lib.hid (HQ.out.below hbb HBX.out)
    have HBX := Lib.hid (Nat.lt_of_lt_of_le HBX.out hbb.size)
    have HW := Lib.hid (HW.out.trans (hbb.mono HW.out.size))
    clear hbb
    clear HU
    go_wp2_with fail
    refine (specMapOk_any _ _ _ _ _ _ _ _ _ xs ys M _ HN0.out HN1.out HM.out hs0 hs1 hs2).mono ?_
    rintro e wg ⟨rfl, hdr⟩
    have hbb := hdr.toBelow (B := wf.heap.size)
    clear hdr
    have HN0 := Lib.hid (HN0.out.to_below hbb)
    have HN1 := Lib.hid (HN1.out.to_below hbb)
    have HM := Lib.hid (HM.out.to_below hbb)
    have HK := Lib.hid (HK.out.to_below hbb)
    have HT := Lib.hid (own_below HT.out hbb)
    have HQ := Lib.hid (HQ.out.below hbb HBX.out)
    have HBX := Lib.hid (Nat.lt_of_lt_of_le HBX.out hbb.size)
    have HW := Lib.hid (HW.out.trans (hbb.mono HW.out.size))
    clear hbb
    rw [hok]
    obtain ⟨r0, r1, r2⟩ := HQ.out
    go_wp2_with fail
    clear r0 r1 r2
    refine (specCostOk_any _ _ _ _ _ _ _ _ _ K _ HK.out (by decide) hN1 (by decide)).mono ?_
    rintro e wh ⟨rfl, hbb⟩
    have HN0 := Lib.hid (HN0.out.to_below hbb)
    have HN1 := Lib.hid (HN1.out.to_below hbb)
    have HM := Lib.hid (HM.out.to_below hbb)
    have HK := Lib.hid (HK.out.to_below hbb)
    have HT := Lib.hid (own_below HT.out hbb)
    have HQ := Lib.hid (HQ.out.below hbb HBX.out)
    have HBX := Lib.hid (Nat.lt_of_lt_of_le HBX.out hbb.size)
    have HW := Lib.hid (HW.out.trans (hbb.mono HW.out.size))
    clear hbb
    cases hck : Co.ok K with
    | false =>
      go_wp2
      go_ret
      exact ⟨rfl, HW.out⟩
    | true =>
      obtain ⟨r0, r1, r2⟩ := HQ.out
      go_wp2_with fail
      clear r0 r1 r2
      refine (implBestMap_any (c := _) (c' := _) (c0 := _) (c1 := _) (c2 := _) (ha := HN1.out) (hb := HN0.out) (hk := HK.out) (hn := hs1) (hn' := hs0) (h0 := by decide) (h1 := hN1) (h2 := by decide) (hc := hcp') (hc' := hcp)).mono ?_
      rintro e wi ⟨An, cn, rfl, hn9, hbb⟩
      have HN0 := Lib.hid (HN0.out.to_below hbb)
      have HN1 := Lib.hid (HN1.out.to_below hbb)
      have HM := Lib.hid (HM.out.to_below hbb)
      have HK := Lib.hid (HK.out.to_below hbb)
      have HT := Lib.hid (own_below HT.out hbb)
      have HQ := Lib.hid (HQ.out.below hbb HBX.out)
      have HBX := Lib.hid (Nat.lt_of_lt_of_le HBX.out hbb.size)
      have HW := Lib.hid (HW.out.trans (hbb.mono HW.out.size))
      clear hbb
      obtain ⟨N, hN⟩ : ∃ x, x = Bm.best ys xs K := ⟨_, rfl⟩
      rw [← hN] at hn9 ⊢
      have HN := Lib.hid hn9
      have OKN := Lib.hid (show Mp.ok ys xs N = true by rw [hN, Bm.best_yes (by unfold DOk; rw [(Mp.ok_iff.1 hok).2.1, (Mp.ok_iff.1 hok).1, hck]; rfl)]; exact Bm.best_ok (Mp.ok_iff.1 hok).2.1 (Mp.ok_iff.1 hok).1)
      have SMN := Lib.hid (Sml.of (by have := L1.out; omega) (by have := L0.out; omega) OKN.out).smz
      have NL := Lib.hid (show N.length ≤ 31 by have := Mp.ok_len OKN.out; have := L1.out; omega)
      clear hn9 hN
      go_wp2_with fail
      refine (implComposed_any _ _ _ _ _ _ M N _ HM.out (NdIn.of_own HN.out) hs2 (by have := NL.out; omega) SM.out.wf SMN.out.wf).mono ?_
      rintro e wj ⟨Ap, cp9, rfl, hp9, hbb⟩
      have HN0 := Lib.hid (HN0.out.to_below hbb)
      have HN1 := Lib.hid (HN1.out.to_below hbb)
      have HM := Lib.hid (HM.out.to_below hbb)
      have HK := Lib.hid (HK.out.to_below hbb)
      have HT := Lib.hid (own_below HT.out hbb)
      have HN := Lib.hid (own_below HN.out hbb)
      have HQ := Lib.hid (HQ.out.below hbb HBX.out)
      have HBX := Lib.hid (Nat.lt_of_lt_of_le HBX.out hbb.size)
      have HW := Lib.hid (HW.out.trans (hbb.mono HW.out.size))
      clear hbb
      obtain ⟨P, hP⟩ : ∃ x, x = Cp.all M N := ⟨_, rfl⟩
      rw [← hP] at hp9 ⊢
      have HP := Lib.hid hp9
      have OKP := Lib.hid (show Mp.ok xs xs P = true by rw [hP]; exact Mp.ok_comp hok OKN.out)
      have PL := Lib.hid (show P.length ≤ 31 by have := Mp.ok_len OKP.out; have := L0.out; omega)
      clear hp9 hP HN OKN SMN NL
      go_wp2_with fail
      refine (implComposed_any _ _ _ _ _ _ M T _ HM.out (NdIn.of_own HT.out) hs2 (by have := HTL.out; omega) SM.out.wf STT.out.wf).mono ?_
      rintro e wk ⟨Ae, ce, rfl, he9, hbb⟩
      have HN0 := Lib.hid (HN0.out.to_below hbb)
      have HN1 := Lib.hid (HN1.out.to_below hbb)
      have HM := Lib.hid (HM.out.to_below hbb)
      have HK := Lib.hid (HK.out.to_below hbb)
      have HT := Lib.hid (own_below HT.out hbb)
      have HP := Lib.hid (own_below HP.out hbb)
      have HQ := Lib.hid (HQ.out.below hbb HBX.out)
      have HBX := Lib.hid (Nat.lt_of_lt_of_le HBX.out hbb.size)
      have HW := Lib.hid (HW.out.trans (hbb.mono HW.out.size))
      clear hbb
      obtain ⟨E, hE⟩ : ∃ x, x = Cp.all M T := ⟨_, rfl⟩
      rw [← hE] at he9 ⊢
      have HEO := Lib.hid he9
      have hE2 : E = M.map fun e => (e.1, e.1) := by rw [hE, HTT.out]; exact Cp.back_all hok
      have EL := Lib.hid (show E.length = M.length by rw [hE2, List.length_map])
      have EE := Lib.hid (show ∀ i, i < E.length → Tr.l E i = Tr.d E i by
        intro i hi
        have h := List.getElem_mem hi
        have q : ∀ e ∈ E, e.1 = e.2 := by rw [hE2]; intro e he; obtain ⟨u, _, rfl⟩ := List.mem_map.1 he; rfl
        have := q _ h
        rw [pr_at E hi] at this
        exact this)
      clear he9 hE hE2
      go_wp2_with fail
      go_loopw [11] (fun iv wr => ∃ i : Nat, i ≤ E.length ∧ iv = .int .i64 i ∧ Below wk.heap.size wk wr) (fun v _ => 100 - (intOf v).toNat)
      case atStart => exact ⟨0, Nat.zero_le _, rfl, Below.refl _ _⟩
      case round =>
        obtain ⟨i, hi, rfl, hbr⟩ := hrel
        have E33 := Lib.hid (show E.length ≤ 33 by have := EL.out; have := ML.out; omega)
        by_cases hlt : i < E.length
        · have k0 : (i : Int) < (E.length : Int) := by omega
          have k1 : (0 : Int) ≤ (i : Int) := by omega
          have i33 : i ≤ 40 := by have := E33.out; omega
          obtain ⟨ad, rfl, hbl, c1, c2⟩ := (NdIn.of_own (own_below HEO.out hbr)).at_ hlt
          obtain ⟨x, hx⟩ : ∃ x, x = Tr.d E i := ⟨_, rfl⟩
          rw [EE.out i hlt, ← hx] at c1
          rw [← hx] at c2
          have hne : (x != x) = false := by simp
          clear hx hbl
          have HBR := Lib.hid hbr
          clear hbr
          go_wp2_with fail
          go_quiet (fail)
          go_wp2
          go_roundw
          case rel => exact ⟨i + 1, by omega, by go_num, HBR.out.trans (by first | exact Drawn.toBelow (Drawn.refl _) | exact (Drawn.refl _).drew.toBelow | exact Drawn.toBelow ⟨_, rfl⟩)⟩
          case measure => simp [intOf]; omega
        · obtain rfl : i = E.length := by omega
          have k0 : ¬ (E.length : Int) < (E.length : Int) := by omega
          have hbb := hbr
          clear hbr
          have HN0 := Lib.hid (HN0.out.to_below hbb)
          have HN1 := Lib.hid (HN1.out.to_below hbb)
          have HM := Lib.hid (HM.out.to_below hbb)
          have HK := Lib.hid (HK.out.to_below hbb)
          have HT := Lib.hid (own_below HT.out hbb)
          have HP := Lib.hid (own_below HP.out hbb)
          have HQ := Lib.hid (HQ.out.below hbb HBX.out)
          have HBX := Lib.hid (Nat.lt_of_lt_of_le HBX.out hbb.size)
          have HW := Lib.hid (HW.out.trans (hbb.mono HW.out.size))
          clear hbb
          have RL := Lib.hid (show K.r.length = 36 from HK.out.2.2.1)
          obtain ⟨R, hR⟩ : ∃ x, x = Mp.cost xs ys K M := ⟨_, rfl⟩
          have HRR := Lib.hid hR.symm
          have HRT := Lib.hid (show Mp.cost ys xs (Co.turn K) T = R by rw [HTT.out, hR]; exact Mp.cost_turn hok hck RL.out)
          clear hR
          have C1 := Lib.hid (fun (wq : World) (hq : Below wr.heap.size wr wq) => show Calls Try.prog 38 #[.slice A n cp, .slice A n cp, .slice Ap P.length cp9] wq fun e w' => e = .returned (.bool true) ∧ Drawn wq w' from by
            rw [← OKP.out]
            exact specMapOk_any _ _ _ _ _ _ _ _ _ xs xs P _ (HN0.out.to_below hq) (HN0.out.to_below hq) (NdIn.of_own (own_below HP.out hq)) hs0 hs0 (by have := PL.out; omega))
          have C2 := Lib.hid (fun (wq : World) (hq : Below wr.heap.size wr wq) => show Calls Try.prog 41 #[.slice A n cp, .slice A' n' cp', .agg #[.slice (some ⟨h0, 0, none⟩) 6 c0, .slice (some a1) n1 q1, .slice (some ⟨h2, 0, none⟩) 36 c2], .slice A'' n'' cp''] wq fun e w' => e = .returned (.int .i64 R) ∧ Below wq.heap.size wq w' from by
            rw [← HRR.out]
            exact implMapCost_any (c := _) (c' := _) (c'' := _) (c0 := _) (c1 := _) (c2 := _) (ha := HN0.out.to_below hq) (hb := HN1.out.to_below hq) (hk := HK.out.to_below hq) (hm := HM.out.to_below hq) (hn := hs0) (hn' := hs1) (hn'' := hs2) (h0 := by decide) (h1 := hN1) (h2 := by decide) (hc := hcp) (hc' := hcp') (hc'' := hcp''))
          have C3 := Lib.hid (fun (wq : World) (hq : Below wr.heap.size wr wq) => show Calls Try.prog 47 #[.agg #[.slice (some ⟨h0, 0, none⟩) 6 c0, .slice (some a1) n1 q1, .slice (some ⟨h2, 0, none⟩) 36 c2]] wq (SwAt wq n1 K) from
            swapped_any ⟨h0, 0, none⟩ a1 ⟨h2, 0, none⟩ n1 c0 q1 c2 K wq (HK.out.to_below hq) HNN.out)
          have C4 := Lib.hid (fun (wq : World) (hq : Below wr.heap.size wr wq) (G0 G1 G2 e0 e1 e2 : Nat) (hk : CoIn wq wq.heap.size (some ⟨G0, 0, none⟩) (some ⟨G1, 0, none⟩) (some ⟨G2, 0, none⟩) n1 6 36 (Co.turn K)) => show Calls Try.prog 41 #[.slice A' n' cp', .slice A n cp, .agg #[.slice (some ⟨G0, 0, none⟩) n1 e0, .slice (some ⟨G1, 0, none⟩) 6 e1, .slice (some ⟨G2, 0, none⟩) 36 e2], .slice At T.length ct] wq fun e w' => e = .returned (.int .i64 R) ∧ Below wq.heap.size wq w' from by
            rw [← HRT.out]
            exact implMapCost_any (c := _) (c' := _) (c'' := _) (c0 := _) (c1 := _) (c2 := _) (ha := HN1.out.to_below hq) (hb := HN0.out.to_below hq) (hk := hk) (hm := NdIn.of_own (own_below HT.out hq)) (hn := hs1) (hn' := hs0) (hn'' := by have := HTL.out; omega) (h0 := hN1) (h1 := by decide) (h2 := by decide) (hc := hcp') (hc' := hcp) (hc'' := own_cap HT.out))
          have f1 : (R == R) = true := by simp
          have f4 : ((E.length : Int) == (n'' : Int)) = true := by have := EL.out; have := ML2.out; rw [show E.length = n'' by omega]; simp
          have S0 := Lib.hid (show (wr.drew.cell? ⟨w1.heap.size, 0, none⟩ = some (.slice (some ⟨h0, 0, none⟩) 6 c0) ∧ wr.drew.cell? ⟨w1.heap.size, 1, none⟩ = some (.slice (some a1) n1 q1) ∧ wr.drew.cell? ⟨w1.heap.size, 2, none⟩ = some (.slice (some ⟨h2, 0, none⟩) 36 c2) ∧ BelA wr wr.drew) from ⟨HQ.out.1, HQ.out.2.1, HQ.out.2.2, (Drawn.refl _).drew.toBelow⟩)
          go_wp2_with fail
          go_region_held3 (fun wq => wq.cell? ⟨w1.heap.size, 0, none⟩ = some (.slice (some ⟨h0, 0, none⟩) 6 c0) ∧ wq.cell? ⟨w1.heap.size, 1, none⟩ = some (.slice (some a1) n1 q1) ∧ wq.cell? ⟨w1.heap.size, 2, none⟩ = some (.slice (some ⟨h2, 0, none⟩) 36 c2) ∧ BelA wr wq) (first | (with_reducible exact SC) | (with_reducible exact S0.out)) (first | ((go_at_call 38; with_reducible refine (C1.out _ (bx_below (by assumption))).mono ?_); rintro e w5 ⟨rfl, hb5⟩; have SC := bx_drawn (by assumption) hb5) | ((go_at_call 47; with_reducible refine (C3.out _ (bx_below (by assumption))).mono ?_); rintro e w5 ⟨G0, G1, G2, e0, e1, e2, rfl, hT5, hb5⟩; have SC := bx_keep (by assumption) hb5) | ((go_at_call 41; with_reducible refine (C2.out _ (bx_below (by assumption))).mono ?_); rintro e w5 ⟨rfl, hb5⟩; have SC := bx_keep (by assumption) hb5) | ((go_at_call 41; with_reducible refine (C4.out _ (bx_below (by assumption)) _ _ _ _ _ _ (by assumption)).mono ?_); rintro e w5 ⟨rfl, hb5⟩; have SC := bx_keep (by assumption) hb5))
          have HE := Lib.hid (HW.out.trans ((bx_below SC).mono HW.out.size))
          go_wp2
          go_ret
          exact ⟨rfl, HE.out⟩

end Go.Proofs.Ytlndaflhlkbedaa

/- Contracts (ExCmp). -/
namespace Go.Proofs.Ytlndaflhlkbedaa
open Go.RowKit
set_option linter.unusedVariables false

set_option maxHeartbeats 400000 in
theorem fnComposed_walk (a : Option Addr) (n cap : Nat) (zs : List Int) (w : World) (hz : Kit.BytesIn w a n cap zs) :
    Calls Try.prog 7 #[.slice a n cap] w fun e w' => e = .returned (.bool true) ∧ Below w.heap.size w w' := by
  by_cases hb : (1048576 : Int) < n
  · clear hz
    go_enter Try.func7, Try.ntmps7
    go_wp2_with fail
    refine (big_big _ _ _ hb _).mono ?_
    rintro e w0 ⟨rfl, rfl⟩
    go_wp2
    go_ret
    exact ⟨rfl, Below.refl _ _⟩
  · obtain ⟨hl, hcode⟩ := code_of hz
    have h := composed_any ⟨a, zs.take n, cap⟩ w hcode (by simp only; omega)
    simp only [hl] at h
    exact h

end Go.Proofs.Ytlndaflhlkbedaa
