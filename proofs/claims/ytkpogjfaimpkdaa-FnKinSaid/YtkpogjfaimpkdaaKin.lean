/- Contracts (Kin). -/
import Derived.Test.YtkpogjfaimpkdaaBig
import Derived.Test.YtkpogjfaimpkdaaDrawTII
import Derived.Test.YtkpogjfaimpkdaaKinP
import Derived.Test.YtkpogjfaimpkdaaKinI
import Derived.Test.YtkpogjfaimpkdaaKinS
import Derived.Test.YtkpogjfaimpkdaaKidRankI
import Derived.Test.YtkpogjfaimpkdaaParI
import Derived.Test.YtkpogjfaimpkdaaTreeOkS
import Derived.Deep.RegionHeld3
namespace Go.Proofs.Ytkpogjfaimpkdaa
open Go.RowKit
set_option linter.unusedVariables false

/-- what the law keeps of the world: the tree reads, older blocks are as they were -/
def KinG (w : World) (A : Option Addr) (n : Nat) (xs : Tr) (wq : World) : Prop := NdIn wq wq.heap.size A n xs ∧ Below w.heap.size w wq
theorem KinG.below {w wq w' : World} {A : Option Addr} {n : Nat} {xs : Tr} (h : KinG w A n xs wq) (hb : Below wq.heap.size wq w') : KinG w A n xs w' := ⟨h.1.to_below hb, h.2.trans (hb.mono h.2.size)⟩
theorem KinG.drawn {w wq w' : World} {A : Option Addr} {n : Nat} {xs : Tr} (h : KinG w A n xs wq) (hd : Drawn wq w') : KinG w A n xs w' := h.below hd.toBelow
theorem kin_cells {w wq : World} {ad : Addr} {n p j : Nat} {xs : Tr} {D : Int} (h : KinG w (some ad) n xs wq) (hp : p < n) (hj : j < n) (hd : Tr.d xs p = D - 1) (hD : Tr.d xs j = D) :
    wq.cell? ⟨(ad.add (p * 2)).block, (ad.add (p * 2)).off + 1, none⟩ = some (.int .i64 (D - 1)) ∧ wq.cell? ⟨(ad.add (j * 2)).block, (ad.add (j * 2)).off + 1, none⟩ = some (.int .i64 D) ∧ KinG w (some ad) n xs wq :=
  ⟨by rw [← hd]; exact (h.1.here hp).2, by rw [← hD]; exact (h.1.here hj).2, h⟩
theorem ways_cell (w : World) (b0 b1 b2 b3 b4 : Bool) (e : TypeId) (t : Nat) (ht : t < 5) : (w.alloc (.cells #[.bool b0, .bool b1, .bool b2, .bool b3, .bool b4] e)).cell? ⟨w.heap.size, t, none⟩ = some (.bool ([b0, b1, b2, b3, b4].getD t false)) := by
  rcases t with _ | _ | _ | _ | _ | t <;> first | (simp; done) | omega
set_option maxHeartbeats 3200000 in
set_option maxRecDepth 100000 in
theorem kin_any (k : Code) (w : World) (hcode : CodeIn w w.heap.size k.a k.cs) (hlen : k.cs.length ≤ 1048576) :
    Calls Try.prog 3 #[.slice k.a k.cs.length k.cap] w fun e w' => e = .returned (.bool true) ∧ Below w.heap.size w w' := by
  have HC := Lib.hid hcode
  clear hcode
  go_enter Try.func3, Try.ntmps3
  go_wp2_with fail
  refine (big_small _ _ _ (by omega) _).mono ?_
  rintro e w0 ⟨rfl, rfl⟩
  have HW := Lib.hid (Below.refl (World.heap w).size w)
  go_wp2_with fail
  refine (drawUnder_ex _ k HC.out hlen).mono ?_
  rintro e w1 ⟨xs, A, n, cp, i, j, rfl, hn, hcp, hn31, hb⟩
  have HW := Lib.hid (HW.out.trans (hb.mono HW.out.size))
  have HN := Lib.hid hn
  have HL := Lib.hid hn.1
  have hn20 : n ≤ 1048576 := by omega
  clear hb hn
  by_cases hno : ¬ (Tr.has xs i = true ∧ Tr.has xs j = true)
  · have Hu := Lib.hid (Tr.under_no hno).1
    have Hv := Lib.hid (Tr.under_no hno).2
    go_wp2_with fail
    refine (specTreeOk_any _ _ _ xs _ HN.out hn20).mono ?_
    rintro e w2 ⟨rfl, hd⟩
    have HW := Lib.hid (Drawn.below HW.out hd)
    have HN := Lib.hid (HN.out.to_drawn hd)
    clear hd
    cases hok : Tr.ok xs with
    | false =>
      clear hno hok
      
      go_wp2_with fail
      refine (implUnder_any _ _ _ xs _ _ _ HN.out hn20 hcp).mono ?_
      rintro e w3 ⟨rfl, hb⟩
      have HW := Lib.hid (HW.out.trans (hb.mono HW.out.size))
      have HN := Lib.hid (HN.out.to_below hb)
      clear hb
      rw [Hu.out]
      go_wp2_with fail
      refine (implLeftOf_any _ _ _ xs _ _ _ HN.out hn20 hcp).mono ?_
      rintro e w4 ⟨rfl, hb⟩
      have HW := Lib.hid (HW.out.trans (hb.mono HW.out.size))
      clear hb
      rw [Hv.out]
      go_wp2
      go_ret
      exact ⟨rfl, HW.out⟩
    | true =>
      by_cases h1 : i < 0
      · have e1 : decide (i < 0) = true := by simpa using h1
        clear hno hok h1
        
        go_wp2_with fail
        refine (implUnder_any _ _ _ xs _ _ _ HN.out hn20 hcp).mono ?_
        rintro e w3 ⟨rfl, hb⟩
        have HW := Lib.hid (HW.out.trans (hb.mono HW.out.size))
        have HN := Lib.hid (HN.out.to_below hb)
        clear hb
        rw [Hu.out]
        go_wp2_with fail
        refine (implLeftOf_any _ _ _ xs _ _ _ HN.out hn20 hcp).mono ?_
        rintro e w4 ⟨rfl, hb⟩
        have HW := Lib.hid (HW.out.trans (hb.mono HW.out.size))
        clear hb
        rw [Hv.out]
        go_wp2
        go_ret
        exact ⟨rfl, HW.out⟩
      · have e1 : decide (i < 0) = false := by simpa using h1
        by_cases h2 : j < 0
        · have e2 : decide (j < 0) = true := by simpa using h2
          clear hno hok h1 h2
          
          go_wp2_with fail
          refine (implUnder_any _ _ _ xs _ _ _ HN.out hn20 hcp).mono ?_
          rintro e w3 ⟨rfl, hb⟩
          have HW := Lib.hid (HW.out.trans (hb.mono HW.out.size))
          have HN := Lib.hid (HN.out.to_below hb)
          clear hb
          rw [Hu.out]
          go_wp2_with fail
          refine (implLeftOf_any _ _ _ xs _ _ _ HN.out hn20 hcp).mono ?_
          rintro e w4 ⟨rfl, hb⟩
          have HW := Lib.hid (HW.out.trans (hb.mono HW.out.size))
          clear hb
          rw [Hv.out]
          go_wp2
          go_ret
          exact ⟨rfl, HW.out⟩
        · have e2 : decide (j < 0) = false := by simpa using h2
          by_cases h3 : (n : Int) ≤ i
          · have e3 : decide ((n : Int) ≤ i) = true := by simpa using h3
            clear hno hok h1 h2 h3
            
            go_wp2_with fail
            refine (implUnder_any _ _ _ xs _ _ _ HN.out hn20 hcp).mono ?_
            rintro e w3 ⟨rfl, hb⟩
            have HW := Lib.hid (HW.out.trans (hb.mono HW.out.size))
            have HN := Lib.hid (HN.out.to_below hb)
            clear hb
            rw [Hu.out]
            go_wp2_with fail
            refine (implLeftOf_any _ _ _ xs _ _ _ HN.out hn20 hcp).mono ?_
            rintro e w4 ⟨rfl, hb⟩
            have HW := Lib.hid (HW.out.trans (hb.mono HW.out.size))
            clear hb
            rw [Hv.out]
            go_wp2
            go_ret
            exact ⟨rfl, HW.out⟩
          · have e3 : decide ((n : Int) ≤ i) = false := by simpa using h3
            have h4 : (n : Int) ≤ j := by
              refine Classical.byContradiction fun h4 => hno ⟨Tr.has_iff.2 ⟨hok, by omega, by rw [HL.out]; omega⟩, Tr.has_iff.2 ⟨hok, by omega, by rw [HL.out]; omega⟩⟩
            have e4 : decide ((n : Int) ≤ j) = true := by simpa using h4
            clear hno hok h1 h2 h3 h4
            
            go_wp2_with fail
            refine (implUnder_any _ _ _ xs _ _ _ HN.out hn20 hcp).mono ?_
            rintro e w3 ⟨rfl, hb⟩
            have HW := Lib.hid (HW.out.trans (hb.mono HW.out.size))
            have HN := Lib.hid (HN.out.to_below hb)
            clear hb
            rw [Hu.out]
            go_wp2_with fail
            refine (implLeftOf_any _ _ _ xs _ _ _ HN.out hn20 hcp).mono ?_
            rintro e w4 ⟨rfl, hb⟩
            have HW := Lib.hid (HW.out.trans (hb.mono HW.out.size))
            clear hb
            rw [Hv.out]
            go_wp2
            go_ret
            exact ⟨rfl, HW.out⟩
  · have hyes := Classical.not_not.1 hno
    have hok := (Tr.has_iff.1 hyes.1).1
    have hi := (Tr.has_iff.1 hyes.1).2
    have hj := (Tr.has_iff.1 hyes.2).2
    rw [HL.out] at hi hj
    have hle := (Tr.ok_iff.1 hok).2
    rw [HL.out] at hle
    obtain ⟨i, rfl⟩ := Int.eq_ofNat_of_zero_le hi.1
    obtain ⟨j, rfl⟩ := Int.eq_ofNat_of_zero_le hj.1
    have hin : i < n := by omega
    have hjn : j < n := by omega
    have Hone := Lib.hid (Tr.one_way hok (i := i) (j := j) (by rw [HL.out]; exact hin) (by rw [HL.out]; exact hjn))
    have Hr := Lib.hid (Tr.rank_pos hok (j := j) (by rw [HL.out]; exact hjn))
    have Hz := Lib.hid (Tr.parent_zero hok)
    have Hp := Lib.hid (fun h => Tr.parent_pos hok (j := j) (by rw [HL.out]; exact hjn) h)
    have Hun := Lib.hid (fun (p : Nat) h => Tr.under_nat hok (i := p) (j := j) h (by rw [HL.out]; exact hjn))
    have Hd := Lib.hid (Tr.ok_at hok (k := j) (by rw [HL.out]; exact hjn))
    have Hok := Lib.hid hok
    have e1 : decide ((i : Int) < 0) = false := by simp
    have e2 : decide ((j : Int) < 0) = false := by simp
    have e3 : decide ((n : Int) ≤ (i : Int)) = false := by simp; omega
    have e4 : decide ((n : Int) ≤ (j : Int)) = false := by simp; omega
    clear hno hyes hok hi hj
    go_wp2_with fail
    refine (specTreeOk_any _ _ _ xs _ HN.out hn20).mono ?_
    rintro e w2 ⟨rfl, hd⟩
    have HW := Lib.hid (Drawn.below HW.out hd)
    have HN := Lib.hid (HN.out.to_drawn hd)
    clear hd
    rw [Hok.out]
    have hn1 : n ≤ 24 := hle.2
    go_wp2_with fail
    refine (implUnder_any _ _ _ xs _ _ _ HN.out hn20 hcp).mono ?_
    rintro e w3 ⟨rfl, hb⟩
    have HW := Lib.hid (HW.out.trans (hb.mono HW.out.size))
    have HN := Lib.hid (HN.out.to_below hb)
    clear hb
    go_wp2_with fail
    refine (implUnder_any _ _ _ xs _ _ _ HN.out hn20 hcp).mono ?_
    rintro e w4 ⟨rfl, hb⟩
    have HW := Lib.hid (HW.out.trans (hb.mono HW.out.size))
    have HN := Lib.hid (HN.out.to_below hb)
    clear hb
    go_wp2_with fail
    refine (implLeftOf_any _ _ _ xs _ _ _ HN.out hn20 hcp).mono ?_
    rintro e w5 ⟨rfl, hb⟩
    have HW := Lib.hid (HW.out.trans (hb.mono HW.out.size))
    have HN := Lib.hid (HN.out.to_below hb)
    clear hb
    go_wp2_with fail
    refine (implLeftOf_any _ _ _ xs _ _ _ HN.out hn20 hcp).mono ?_
    rintro e w6 ⟨rfl, hb⟩
    have HW := Lib.hid (HW.out.trans (hb.mono HW.out.size))
    have HN := Lib.hid (HN.out.to_below hb)
    clear hb
    obtain ⟨b1, hb1⟩ : ∃ b, b = Tr.under xs (i : Int) j := ⟨_, rfl⟩
    obtain ⟨b2, hb2⟩ : ∃ b, b = Tr.under xs (j : Int) i := ⟨_, rfl⟩
    obtain ⟨b3, hb3⟩ : ∃ b, b = Tr.leftOf xs (i : Int) j := ⟨_, rfl⟩
    obtain ⟨b4, hb4⟩ : ∃ b, b = Tr.leftOf xs (j : Int) i := ⟨_, rfl⟩
    obtain ⟨b0, hb0⟩ : ∃ b, b = decide ((i : Int) = j) := ⟨_, rfl⟩
    have q0 : ((i : Int) == (j : Int)) = b0 := by rw [hb0, Bool.eq_iff_iff]; simp
    have Hw := Lib.hid (show Bs.count [b0, b1, b2, b3, b4] 5 = 1 by rw [hb0, hb1, hb2, hb3, hb4]; exact Hone.out)
    rw [← hb1, ← hb2, ← hb3, ← hb4]
    clear hb0 hb1 hb2 hb3 hb4 Hone
    have HCell := Lib.hid (fun t ht => ways_cell w6 b0 b1 b2 b3 b4 4 t ht)
    obtain ⟨bs, hbs⟩ : ∃ bs, bs = [b0, b1, b2, b3, b4] := ⟨_, rfl⟩
    have hbl : bs.length = 5 := by rw [hbs]; rfl
    rw [← hbs] at Hw HCell
    clear hbs
    have HS := Lib.hid (fun t (ht : t < 5) => Bs.count_succ bs t (by rw [hbl]; exact ht))
    have HLe := Lib.hid (fun t => Bs.count_le bs t)
    have hsx := HW.out.size
    have HWa := Lib.hid (HW.out.alloc hsx (.cells #[.bool b0, .bool b1, .bool b2, .bool b3, .bool b4] 4))
    have HNa := Lib.hid (HN.out.to_below ((Below.refl _ w6).alloc (Nat.le_refl _) (.cells #[.bool b0, .bool b1, .bool b2, .bool b3, .bool b4] 4)))
    clear hbl e1 e2 e3 e4
    go_wp2
    obtain ⟨wa, hwa⟩ : ∃ wa, wa = w6.alloc (.cells #[.bool b0, .bool b1, .bool b2, .bool b3, .bool b4] 4) := ⟨_, rfl⟩
    obtain ⟨g, hg⟩ : ∃ g, g = w6.heap.size := ⟨_, rfl⟩
    rw [← hwa, ← hg] at HCell
    rw [← hwa] at HWa HNa
    rw [← hwa, ← hg]
    clear hwa hg hsx HW HN q0
    go_loop [6, 8] (fun nv kv => ∃ t : Nat, t ≤ 5 ∧ nv = .int .i64 (Bs.count bs t : Nat) ∧ kv = .int .i64 t) (fun _ k => 5 - (intOf k).toNat)
    case atStart => exact ⟨0, Nat.zero_le _, rfl, rfl⟩
    case round =>
      obtain ⟨t, ht, rfl, rfl⟩ := hrel
      by_cases hlt : t < 5
      · have c0 := HCell.out t hlt
        have hs := HS.out t hlt
        have hle2 := HLe.out t
        have k0 : (0 : Int) ≤ (t : Int) := by omega
        have k1 : decide ((t : Int) < 5) = true := by simp; omega
        obtain ⟨b, hb⟩ : ∃ b, b = bs.getD t false := ⟨_, rfl⟩
        rw [← hb] at c0 hs
        clear hb
        cases b with
        | true =>
          have Hs := Lib.hid (hs.trans (if_pos rfl))
          clear hs
          go_wp2
          go_round
          case rel => exact ⟨t + 1, by omega, by rw [Hs.out]; go_num, by go_num⟩
          case measure => simp [intOf]; omega
        | false =>
          have Hs := Lib.hid (hs.trans (if_neg (by decide)))
          clear hs
          go_wp2
          go_round
          case rel => exact ⟨t + 1, by omega, by rw [Hs.out], by go_num⟩
          case measure => simp [intOf]; omega
      · obtain rfl : t = 5 := by omega
        rw [Hw.out]
        have k1 : decide (((5 : Nat) : Int) < 5) = false := rfl
        go_wp2_with fail
        refine (implParentOf_any _ _ _ xs _ _ HNa.out hn20 hcp).mono ?_
        rintro e w7 ⟨rfl, hb⟩
        have HW := Lib.hid (HWa.out.trans (hb.mono HWa.out.size))
        have HN := Lib.hid (HNa.out.to_below hb)
        have HK0 := Lib.hid (show KinG w A n xs w7.drew from ⟨HN.out.drew, HW.out.drew⟩)
        clear hb
        by_cases h0 : j = 0
        · have hpz : Tr.parentOf xs (j : Int) = -1 := by rw [h0]; exact Hz.out
          have e1 : ((j : Int) == 0) = true := by rw [h0]; rfl
          have e5 : decide (Tr.kidRank xs (j : Int) < 0) = true := by
            have := Hr.out
            simp only [decide_eq_true_eq]
            omega
          rw [hpz]
          clear h0 hpz
          go_wp2_with fail
          refine wp_region_held_drew (S := fun wq => KinG w A n xs wq) (by kernel_rfl) HK0.out (fun hHeld => ?_)
          refine wpAnyH_take (i := 0) (v := ?_) rfl (by kernel_rfl) (by kernel_rfl) (by kernel_rfl) (fun _ _ _ h => h) (Or.inl ⟨by rfl, ?_⟩) (by assumption) ?_
          rotate_left
          · first | (intro w hSw; go_simp; done) | (intro w hSw; go_simp; with_reducible rfl)
          change wpAnyH _ _ _ _ _ _ _ (Act.put _ (some 86) _) _
          simp only [Act.put, List.setIfInBounds_toArray, List.set_cons_zero, List.set_cons_succ]
          refine wpAnyH_take (i := 1) (v := ?_) rfl (by kernel_rfl) (by kernel_rfl) (by kernel_rfl) (fun _ _ _ h => h) (Or.inl ⟨by rfl, ?_⟩) (by assumption) ?_
          rotate_left
          · first | (intro w hSw; go_simp; done) | (intro w hSw; go_simp; with_reducible rfl)
          change wpAnyH _ _ _ _ _ _ _ (Act.put _ (some 87) _) _
          simp only [Act.put, List.setIfInBounds_toArray, List.set_cons_zero, List.set_cons_succ]
          refine wpAnyH_take (i := 2) (v := ?_) rfl (by kernel_rfl) (by kernel_rfl) (by kernel_rfl) (fun _ _ _ h => h) (Or.inl ⟨by rfl, ?_⟩) (by assumption) ?_
          rotate_left
          · first | (intro w hSw; go_simp; done) | (intro w hSw; go_simp; with_reducible rfl)
          change wpAnyH _ _ _ _ _ _ _ (Act.put _ (some 88) _) _
          simp only [Act.put, List.setIfInBounds_toArray, List.set_cons_zero, List.set_cons_succ]
          refine wpAnyH_take (i := 3) (v := ?_) rfl (by kernel_rfl) (by kernel_rfl) (by kernel_rfl) (fun _ _ _ h => h) (Or.inl ⟨by rfl, ?_⟩) (by assumption) ?_
          rotate_left
          · first | (intro w hSw; go_simp; done) | (intro w hSw; go_simp; with_reducible rfl)
          change wpAnyH _ _ _ _ _ _ _ (Act.put _ (some 89) _) _
          simp only [Act.put, List.setIfInBounds_toArray, List.set_cons_zero, List.set_cons_succ]
          refine wpAnyH_take (i := 4) (v := ?_) rfl (by kernel_rfl) (by kernel_rfl) (by kernel_rfl) (fun _ _ _ h => h) (Or.inl ⟨by rfl, ?_⟩) (by assumption) ?_
          rotate_left
          · first | (intro w hSw; go_simp; done) | (intro w hSw; go_simp; with_reducible rfl)
          change wpAnyH _ _ _ _ _ _ _ (Act.put _ (some 90) _) _
          simp only [Act.put, List.setIfInBounds_toArray, List.set_cons_zero, List.set_cons_succ]
          refine wpAnyH_take (i := 5) (v := ?_) rfl (by kernel_rfl) (by kernel_rfl) (by kernel_rfl) (fun _ _ _ h => h) (Or.inl ⟨by rfl, ?_⟩) (by assumption) ?_
          rotate_left
          · first | (intro w hSw; go_simp; done) | (intro w hSw; go_simp; with_reducible rfl)
          change wpAnyH _ _ _ _ _ _ _ (Act.put _ (some 91) _) _
          simp only [Act.put, List.setIfInBounds_toArray, List.set_cons_zero, List.set_cons_succ]
          refine wpAnyH_take (i := 6) (v := ?_) rfl (by kernel_rfl) (by kernel_rfl) (by kernel_rfl) (fun _ _ _ h => h) (Or.inl ⟨by rfl, ?_⟩) (by assumption) ?_
          rotate_left
          · first | (intro w hSw; go_simp; done) | (intro w hSw; go_simp; with_reducible rfl)
          change wpAnyH _ _ _ _ _ _ _ (Act.put _ (some 92) _) _
          simp only [Act.put, List.setIfInBounds_toArray, List.set_cons_zero, List.set_cons_succ]
          refine wpAnyH_take (i := 7) (v := ?_) rfl (by kernel_rfl) (by kernel_rfl) (by kernel_rfl) (fun _ _ _ h => h) (Or.inl ⟨by rfl, ?_⟩) (by assumption) ?_
          rotate_left
          · first | (intro w hSw; go_simp; done) | (intro w hSw; go_simp; with_reducible rfl)
          change wpAnyH _ _ _ _ _ _ _ (Act.put _ (some 93) _) _
          simp only [Act.put, List.setIfInBounds_toArray, List.set_cons_zero, List.set_cons_succ]
          refine wpAnyH_take (i := 8) (v := ?_) rfl (by kernel_rfl) (by kernel_rfl) (by kernel_rfl) (fun _ _ _ h => h) (Or.inl ⟨by rfl, ?_⟩) (by assumption) ?_
          rotate_left
          · first | (intro w hSw; go_simp; done) | (intro w hSw; go_simp; with_reducible rfl)
          change wpAnyH _ _ _ _ _ _ _ (Act.put _ (some 94) _) _
          simp only [Act.put, List.setIfInBounds_toArray, List.set_cons_zero, List.set_cons_succ]
          refine wpAnyH_take (i := 9) (v := ?_) rfl (by kernel_rfl) (by kernel_rfl) (by kernel_rfl) (fun _ _ _ h => h) (Or.inl ⟨by rfl, ?_⟩) (by assumption) ?_
          rotate_left
          · first | (intro w hSw; go_simp; done) | (intro w hSw; go_simp; with_reducible rfl)
          change wpAnyH _ _ _ _ _ _ _ (Act.put _ (some 95) _) _
          simp only [Act.put, List.setIfInBounds_toArray, List.set_cons_zero, List.set_cons_succ]
          refine wpAnyH_take (i := 10) (v := ?_) rfl (by kernel_rfl) (by kernel_rfl) (by kernel_rfl) (fun _ _ _ h => h) (Or.inl ⟨by rfl, ?_⟩) (by assumption) ?_
          rotate_left
          · first | (intro w hSw; go_simp; done) | (intro w hSw; go_simp; with_reducible rfl)
          change wpAnyH _ _ _ _ _ _ _ (Act.put _ (some 96) _) _
          simp only [Act.put, List.setIfInBounds_toArray, List.set_cons_zero, List.set_cons_succ]
          refine wpAnyH_take (i := 11) (v := ?_) rfl (by kernel_rfl) (by kernel_rfl) (by kernel_rfl) (fun _ _ _ h => h) (Or.inl ⟨by rfl, ?_⟩) (by assumption) ?_
          rotate_left
          · first | (intro w hSw; go_simp; done) | (intro w hSw; go_simp; with_reducible rfl)
          change wpAnyH _ _ _ _ _ _ _ (Act.put _ (some 97) _) _
          simp only [Act.put, List.setIfInBounds_toArray, List.set_cons_zero, List.set_cons_succ]
          refine wpAnyH_take (i := 12) (v := ?_) rfl (by kernel_rfl) (by kernel_rfl) (by kernel_rfl) (fun _ _ _ h => h) (Or.inl ⟨by rfl, ?_⟩) (by assumption) ?_
          rotate_left
          · first | (intro w hSw; go_simp; done) | (intro w hSw; go_simp; with_reducible rfl)
          change wpAnyH _ _ _ _ _ _ _ (Act.put _ (some 98) _) _
          simp only [Act.put, List.setIfInBounds_toArray, List.set_cons_zero, List.set_cons_succ]
          refine wpAnyH_take (i := 13) rfl (by kernel_rfl) (by kernel_rfl) (by kernel_rfl) (fun _ _ _ h => h) (Or.inr ⟨by rfl, rfl⟩) (by assumption) ?_
          change wpAnyH _ _ _ _ _ _ _ (Act.put _ (some 99) _) _
          simp only [Act.put, List.setIfInBounds_toArray, List.set_cons_zero, List.set_cons_succ]
          refine wpAnyH_take (i := 14) rfl (by kernel_rfl) (by kernel_rfl) (by kernel_rfl) (fun _ _ _ h => h) (Or.inr ⟨by rfl, rfl⟩) (by assumption) ?_
          change wpAnyH _ _ _ _ _ _ _ (Act.put _ (some 100) _) _
          simp only [Act.put, List.setIfInBounds_toArray, List.set_cons_zero, List.set_cons_succ]
          refine wpAnyH_take (i := 15) rfl (by kernel_rfl) (by kernel_rfl) (by kernel_rfl) (fun _ _ _ h => h) (Or.inr ⟨by rfl, rfl⟩) (by assumption) ?_
          change wpAnyH _ _ _ _ _ _ _ (Act.put _ (some 101) _) _
          simp only [Act.put, List.setIfInBounds_toArray, List.set_cons_zero, List.set_cons_succ]
          refine wpAnyH_take (i := 16) rfl (by kernel_rfl) (by kernel_rfl) (by kernel_rfl) (fun _ _ _ h => h) (Or.inr ⟨by rfl, rfl⟩) (by assumption) ?_
          change wpAnyH _ _ _ _ _ _ _ (Act.put _ (some 102) _) _
          simp only [Act.put, List.setIfInBounds_toArray, List.set_cons_zero, List.set_cons_succ]
          refine wpAnyH_take (i := 17) rfl (by kernel_rfl) (by kernel_rfl) (by kernel_rfl) (fun _ _ _ h => h) (Or.inr ⟨by rfl, rfl⟩) (by assumption) ?_
          change wpAnyH _ _ _ _ _ _ _ (Act.put _ (some 103) _) _
          simp only [Act.put, List.setIfInBounds_toArray, List.set_cons_zero, List.set_cons_succ]
          refine wpAnyH_take (i := 18) rfl (by kernel_rfl) (by kernel_rfl) (by kernel_rfl) (fun _ _ _ h => h) (Or.inr ⟨by rfl, rfl⟩) (by assumption) ?_
          change wpAnyH _ _ _ _ _ _ _ (Act.put _ (some 104) _) _
          simp only [Act.put, List.setIfInBounds_toArray, List.set_cons_zero, List.set_cons_succ]
          refine wpAnyH_take (i := 19) rfl (by kernel_rfl) (by kernel_rfl) (by kernel_rfl) (fun _ _ _ h => h) (Or.inr ⟨by rfl, rfl⟩) (by assumption) ?_
          change wpAnyH _ _ _ _ _ _ _ (Act.put _ (some 105) _) _
          simp only [Act.put, List.setIfInBounds_toArray, List.set_cons_zero, List.set_cons_succ]
          refine wpAnyH_take (i := 20) rfl (by kernel_rfl) (by kernel_rfl) (by kernel_rfl) (fun _ _ _ h => h) (Or.inr ⟨by rfl, rfl⟩) (by assumption) ?_
          change wpAnyH _ _ _ _ _ _ _ (Act.put _ (some 106) _) _
          simp only [Act.put, List.setIfInBounds_toArray, List.set_cons_zero, List.set_cons_succ]
          refine wpAnyH_take (i := 21) rfl (by kernel_rfl) (by kernel_rfl) (by kernel_rfl) (fun _ _ _ h => h) (Or.inr ⟨by rfl, rfl⟩) (by assumption) ?_
          change wpAnyH _ _ _ _ _ _ _ (Act.put _ (some 107) _) _
          simp only [Act.put, List.setIfInBounds_toArray, List.set_cons_zero, List.set_cons_succ]
          refine wpAnyH_take (i := 22) rfl (by kernel_rfl) (by kernel_rfl) (by kernel_rfl) (fun _ _ _ h => h) (Or.inr ⟨by rfl, rfl⟩) (by assumption) ?_
          change wpAnyH _ _ _ _ _ _ _ (Act.put _ (some 108) _) _
          simp only [Act.put, List.setIfInBounds_toArray, List.set_cons_zero, List.set_cons_succ]
          refine wpAnyH_take (i := 23) rfl (by kernel_rfl) (by kernel_rfl) (by kernel_rfl) (fun _ _ _ h => h) (Or.inr ⟨by rfl, rfl⟩) (by assumption) ?_
          change wpAnyH _ _ _ _ _ _ _ (Act.put _ (some 109) _) _
          simp only [Act.put, List.setIfInBounds_toArray, List.set_cons_zero, List.set_cons_succ]
          refine wpAnyH_take (i := 24) rfl (by kernel_rfl) (by kernel_rfl) (by kernel_rfl) (fun _ _ _ h => h) (Or.inr ⟨by rfl, rfl⟩) (by assumption) ?_
          change wpAnyH _ _ _ _ _ _ _ (Act.put _ (some 110) _) _
          simp only [Act.put, List.setIfInBounds_toArray, List.set_cons_zero, List.set_cons_succ]
          refine wpAnyH_take (i := 25) rfl (by kernel_rfl) (by kernel_rfl) (by kernel_rfl) (fun _ _ _ h => h) (Or.inr ⟨by rfl, rfl⟩) (by assumption) ?_
          change wpAnyH _ _ _ _ _ _ _ (Act.put _ (some 111) _) _
          simp only [Act.put, List.setIfInBounds_toArray, List.set_cons_zero, List.set_cons_succ]
          refine wpAnyH_take (i := 26) rfl (by kernel_rfl) (by kernel_rfl) (by kernel_rfl) (fun _ _ _ h => h) (Or.inr ⟨by rfl, rfl⟩) (by assumption) ?_
          change wpAnyH _ _ _ _ _ _ _ (Act.put _ (some 112) _) _
          simp only [Act.put, List.setIfInBounds_toArray, List.set_cons_zero, List.set_cons_succ]
          refine wpAnyH_take (i := 27) rfl (by kernel_rfl) (by kernel_rfl) (by kernel_rfl) (fun _ _ _ h => h) (Or.inr ⟨by rfl, rfl⟩) (by assumption) ?_
          change wpAnyH _ _ _ _ _ _ _ (Act.put _ (some 113) _) _
          simp only [Act.put, List.setIfInBounds_toArray, List.set_cons_zero, List.set_cons_succ]
          refine wpAnyH_take (i := 28) rfl (by kernel_rfl) (by kernel_rfl) (by kernel_rfl) (fun _ _ _ h => h) (Or.inr ⟨by rfl, rfl⟩) (by assumption) ?_
          change wpAnyH _ _ _ _ _ _ _ (Act.put _ (some 114) _) _
          simp only [Act.put, List.setIfInBounds_toArray, List.set_cons_zero, List.set_cons_succ]
          refine wpAnyH_take (i := 29) rfl (by kernel_rfl) (by kernel_rfl) (by kernel_rfl) (fun _ _ _ h => h) (Or.inr ⟨by rfl, rfl⟩) (by assumption) ?_
          change wpAnyH _ _ _ _ _ _ _ (Act.put _ (some 115) _) _
          simp only [Act.put, List.setIfInBounds_toArray, List.set_cons_zero, List.set_cons_succ]
          refine wpAnyH_take (i := 30) rfl (by kernel_rfl) (by kernel_rfl) (by kernel_rfl) (fun _ _ _ h => h) (Or.inr ⟨by rfl, rfl⟩) (by assumption) ?_
          change wpAnyH _ _ _ _ _ _ _ (Act.put _ (some 116) _) _
          simp only [Act.put, List.setIfInBounds_toArray, List.set_cons_zero, List.set_cons_succ]
          refine wpAnyH_take (i := 31) (v := ?_) rfl (by kernel_rfl) (by kernel_rfl) (by kernel_rfl) (fun _ _ _ h => h) (Or.inl ⟨by rfl, ?_⟩) (by assumption) ?_
          rotate_left
          · first | (intro w hSw; go_simp; done) | (intro w hSw; go_simp; with_reducible rfl)
          change wpAnyH _ _ _ _ _ _ _ (Act.put _ (some 117) _) _
          simp only [Act.put, List.setIfInBounds_toArray, List.set_cons_zero, List.set_cons_succ]
          refine wpAnyH_take (i := 32) (v := ?_) rfl (by kernel_rfl) (by kernel_rfl) (by kernel_rfl) (fun _ _ _ h => h) (Or.inl ⟨by rfl, ?_⟩) (by assumption) ?_
          rotate_left
          · first | (intro w hSw; go_simp; done) | (intro w hSw; go_simp; with_reducible rfl)
          change wpAnyH _ _ _ _ _ _ _ (Act.put _ (some 118) _) _
          simp only [Act.put, List.setIfInBounds_toArray, List.set_cons_zero, List.set_cons_succ]
          refine wpAnyH_take (i := 33) (v := ?_) rfl (by kernel_rfl) (by kernel_rfl) (by kernel_rfl) (fun _ _ _ h => h) (Or.inl ⟨by rfl, ?_⟩) (by assumption) ?_
          rotate_left
          · first | (intro w hSw; go_simp; done) | (intro w hSw; go_simp; with_reducible rfl)
          change wpAnyH _ _ _ _ _ _ _ (Act.put _ (some 119) _) _
          simp only [Act.put, List.setIfInBounds_toArray, List.set_cons_zero, List.set_cons_succ]
          refine wpAnyH_take (i := 34) (v := ?_) rfl (by kernel_rfl) (by kernel_rfl) (by kernel_rfl) (fun _ _ _ h => h) (Or.inl ⟨by rfl, ?_⟩) (by assumption) ?_
          rotate_left
          · first | (intro w hSw; go_simp; done) | (intro w hSw; go_simp; with_reducible rfl)
          change wpAnyH _ _ _ _ _ _ _ (Act.put _ (some 120) _) _
          simp only [Act.put, List.setIfInBounds_toArray, List.set_cons_zero, List.set_cons_succ]
          refine wpAnyH_take (i := 35) (v := ?_) rfl (by kernel_rfl) (by kernel_rfl) (by kernel_rfl) (fun _ _ _ h => h) (Or.inl ⟨by rfl, ?_⟩) (by assumption) ?_
          rotate_left
          · first | (intro w hSw; go_simp; done) | (intro w hSw; go_simp; with_reducible rfl)
          change wpAnyH _ _ _ _ _ _ _ (Act.put _ (some 121) _) _
          simp only [Act.put, List.setIfInBounds_toArray, List.set_cons_zero, List.set_cons_succ]
          refine wpAnyH_take (i := 36) (v := ?_) rfl (by kernel_rfl) (by kernel_rfl) (by kernel_rfl) (fun _ _ _ h => h) (Or.inl ⟨by rfl, ?_⟩) (by assumption) ?_
          rotate_left
          · first | (intro w hSw; go_simp; done) | (intro w hSw; go_simp; with_reducible rfl)
          change wpAnyH _ _ _ _ _ _ _ (Act.put _ (some 122) _) _
          simp only [Act.put, List.setIfInBounds_toArray, List.set_cons_zero, List.set_cons_succ]
          refine wpAnyH_take (i := 37) (v := ?_) rfl (by kernel_rfl) (by kernel_rfl) (by kernel_rfl) (fun _ _ _ h => h) (Or.inl ⟨by rfl, ?_⟩) (by assumption) ?_
          rotate_left
          · first | (intro w hSw; go_simp; done) | (intro w hSw; go_simp; with_reducible rfl)
          change wpAnyH _ _ _ _ _ _ _ (Act.put _ (some 123) _) _
          simp only [Act.put, List.setIfInBounds_toArray, List.set_cons_zero, List.set_cons_succ]
          refine wpAnyH_ready (rs := [38]) (by kernel_rfl) (by simp) ?_
          refine AllReadyH.cons rfl (fun K hK => ?_) AllReadyH.nil
          go_simp
          go_at_call 20
          refine (implKidRank_any _ _ _ xs _ _ HK0.out.1 hn20 hcp).mono ?_
          rintro e w' ⟨rfl, hb1⟩
          have hK1 := KinG.below HK0.out hb1
          go_wp2_with fail
          refine hK.out _ _ hK1 (fun hHeld => ?_)
          clear hK K
          refine wpAnyH_take (i := 39) (v := ?_) rfl (by kernel_rfl) (by kernel_rfl) (by kernel_rfl) (fun _ _ _ h => h) (Or.inl ⟨by rfl, ?_⟩) (by assumption) ?_
          rotate_left
          · first | (intro w hSw; go_simp; done) | (intro w hSw; go_simp; with_reducible rfl)
          change wpAnyH _ _ _ _ _ _ _ (Act.put _ (some 125) _) _
          simp only [Act.put, List.setIfInBounds_toArray, List.set_cons_zero, List.set_cons_succ]
          refine wpAnyH_take (i := 40) (v := ?_) rfl (by kernel_rfl) (by kernel_rfl) (by kernel_rfl) (fun _ _ _ h => h) (Or.inl ⟨by rfl, ?_⟩) (by assumption) ?_
          rotate_left
          · first | (intro w hSw; go_simp; done) | (intro w hSw; go_simp; with_reducible rfl)
          change wpAnyH _ _ _ _ _ _ _ (Act.put _ (some 126) _) _
          simp only [Act.put, List.setIfInBounds_toArray, List.set_cons_zero, List.set_cons_succ]
          refine wpAnyH_take (i := 41) (v := ?_) rfl (by kernel_rfl) (by kernel_rfl) (by kernel_rfl) (fun _ _ _ h => h) (Or.inl ⟨by rfl, ?_⟩) (by assumption) ?_
          rotate_left
          · first | (intro w hSw; go_simp; done) | (intro w hSw; go_simp; with_reducible rfl)
          change wpAnyH _ _ _ _ _ _ _ (Act.put _ (some 127) _) _
          simp only [Act.put, List.setIfInBounds_toArray, List.set_cons_zero, List.set_cons_succ]
          refine wpAnyH_take (i := 42) (v := ?_) rfl (by kernel_rfl) (by kernel_rfl) (by kernel_rfl) (fun _ _ _ h => h) (Or.inl ⟨by rfl, ?_⟩) (by assumption) ?_
          rotate_left
          · first | (intro w hSw; go_simp; done) | (intro w hSw; go_simp; with_reducible rfl)
          change wpAnyH _ _ _ _ _ _ _ (Act.put _ (some 2) _) _
          simp only [Act.put, List.setIfInBounds_toArray, List.set_cons_zero, List.set_cons_succ]
          refine wpAnyH_done (by kernel_rfl) ?_ _
          have HK := Lib.hid hK1
          clear hK1 hb1 e1 e5
          go_wp2
          go_ret
          exact ⟨rfl, HK.out.2⟩
        · obtain ⟨p, p1, p2, p3, p4⟩ := Hp.out (by omega)
          have hpn : p < n := by omega
          have hun : Tr.under xs (p : Int) (j : Int) = true := by rw [Hun.out p (by rw [HL.out]; exact hpn)]; simp; omega
          have e1 : ((j : Int) == 0) = false := by simp; omega
          have e2 : decide ((p : Int) < 0) = false := by simp
          have e5 : decide (Tr.kidRank xs (j : Int) < 0) = false := by
            have := Hr.out
            simp only [decide_eq_false_iff_not]
            omega
          have hdb := Hd.out.2.1
          obtain ⟨ad, rfl, _⟩ := HN.out.2.1 (by omega)
          obtain ⟨D, hD⟩ : ∃ D, D = Tr.d xs j := ⟨_, rfl⟩
          rw [← hD] at hdb
          have a1 : IntKind.i64.wrap (D - 1) = D - 1 := Kit.w64 (by omega) (by omega)
          have b0 : (0 : Int) ≤ (p : Int) := by omega
          have b1 : (p : Int) < (n : Int) := by omega
          have b2 : (0 : Int) ≤ (j : Int) := by omega
          have b3 : (j : Int) < (n : Int) := by omega
          have HCs := Lib.hid (fun wq (h : KinG w (some ad) n xs wq) => kin_cells (D := D) h hpn hjn (by rw [p3, hD]) hD.symm)
          have HU := Lib.hid hun
          rw [p2]
          clear h0 p1 p2 p3 p4 hun hdb hD
          go_wp2_with fail
          go_region_held3 (fun wq => wq.cell? ⟨(ad.add (p * 2)).block, (ad.add (p * 2)).off + 1, none⟩ = some (.int .i64 (D - 1)) ∧ wq.cell? ⟨(ad.add (j * 2)).block, (ad.add (j * 2)).off + 1, none⟩ = some (.int .i64 D) ∧ KinG w (some ad) n xs wq) (first | exact HCs.out _ hK2 | exact HCs.out _ hK1 | exact HCs.out _ HK0.out) (first | (go_at_call 19; refine (specUnder_any _ _ _ xs _ _ _ HK0.out.1 hn20).mono ?_; rintro e w' ⟨rfl, hd1⟩; have hK1 := KinG.drawn HK0.out hd1; rw [HU.out]) | (go_at_call 20; refine (implKidRank_any _ _ _ xs _ _ hK1.1 hn20 hcp).mono ?_; rintro e w' ⟨rfl, hb1⟩; have hK2 := KinG.below hK1 hb1))
          have HK := Lib.hid hK2
          clear hK1 hK2 hb1 hd1 e1 e2 e5 a1
          go_wp2
          go_ret
          exact ⟨rfl, HK.out.2⟩

end Go.Proofs.Ytkpogjfaimpkdaa
