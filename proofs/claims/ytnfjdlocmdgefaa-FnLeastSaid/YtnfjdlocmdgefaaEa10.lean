/- Texts of one claim laid into one file, in build order: CostOkS, RankI, PostI, LeafI. -/
import Derived.Test.YtnfjdlocmdgefaaEa3
import Derived.Test.YtnfjdlocmdgefaaEa4
import Derived.Test.YtnfjdlocmdgefaaEa8
import Derived.Test.YtnfjdlocmdgefaaEa9
import Derived.Deep.RegionHeld3
/- Contracts (CostOkS). -/
namespace Go.Proofs.Ytnfjdlocmdgefaa
open Go.RowKit
set_option linter.unusedVariables false

theorem Co.diag_not {k : Co} {a : Nat} (ha : a < 6) (h : Zs.at k.r (a * 6 + a) ≠ 0) : Co.diag k = false := by
  rw [Bool.eq_false_iff]
  intro e
  simp only [Co.diag, List.all_eq_true, List.mem_range, decide_eq_true_eq] at e
  exact h (e a ha)
def Co.diagTo (k : Co) (a : Nat) : Prop := ∀ b, b < a → Zs.at k.r (b * 6 + b) = 0
theorem Co.diag_all {k : Co} (h : Co.diagTo k 6) : Co.diag k = true := by
  simp only [Co.diag, List.all_eq_true, List.mem_range, decide_eq_true_eq]
  exact h
set_option maxHeartbeats 1600000 in
set_option maxRecDepth 100000 in
theorem specCostOk_any (A0 A1 A2 : Option Addr) (n0 n1 n2 c0 c1 c2 : Nat) (k : Co) (w : World) (h : CoIn w w.heap.size A0 A1 A2 n0 n1 n2 k) (h0 : n0 ≤ 1048576) (h1 : n1 ≤ 1048576) (h2 : n2 ≤ 1048576) :
    Calls Try.prog 11 #[.agg #[.slice A0 n0 c0, .slice A1 n1 c1, .slice A2 n2 c2]] w fun e w' => e = .returned (.bool (Co.ok k)) ∧ Below w.heap.size w w' := by
  have H := Lib.hid h
  have HL := Lib.hid h.len
  clear h
  have HB := Lib.hid ((Below.refl w.heap.size w).alloc (Nat.le_refl _) (.cells #[.slice A0 n0 c0, .slice A1 n1 c1, .slice A2 n2 c2] 27))
  have H1 := Lib.hid (H.out.to_below HB.out)
  cases e0 : Zs.fit k.d 6 with
  | false =>
    have Hf := Lib.hid (show Co.ok k = false by unfold Co.ok; rw [e0]; rfl)
    have E0 := Lib.hid e0
    clear e0
    go_enter Try.func11, Try.ntmps11
    go_wp2_with fail
    refine (l7In_any _ _ _ k.d 6 _ H1.out.1 h0 (by decide)).mono ?_
    rintro e w1 ⟨rfl, rfl⟩
    rw [E0.out]
    go_wp2
    go_ret
    exact ⟨Kit.ret_bool Hf.out.symm, HB.out⟩
  | true =>
    cases e1 : Zs.fit k.i 6 with
    | false =>
      have Hf := Lib.hid (show Co.ok k = false by unfold Co.ok; rw [e0, e1]; rfl)
      have E0 := Lib.hid e0
      have E1 := Lib.hid e1
      clear e0 e1
      go_enter Try.func11, Try.ntmps11
      go_wp2_with fail
      refine (l7In_any _ _ _ k.d 6 _ H1.out.1 h0 (by decide)).mono ?_
      rintro e w1 ⟨rfl, rfl⟩
      rw [E0.out]
      go_wp2_with fail
      refine (l7In_any _ _ _ k.i 6 _ H1.out.2.1 h1 (by decide)).mono ?_
      rintro e w1 ⟨rfl, rfl⟩
      rw [E1.out]
      go_wp2
      go_ret
      exact ⟨Kit.ret_bool Hf.out.symm, HB.out⟩
    | true =>
      cases e2 : Zs.fit k.r 36 with
      | false =>
        have Hf := Lib.hid (show Co.ok k = false by unfold Co.ok; rw [e0, e1, e2]; rfl)
        have E0 := Lib.hid e0
        have E1 := Lib.hid e1
        have E2 := Lib.hid e2
        clear e0 e1 e2
        go_enter Try.func11, Try.ntmps11
        go_wp2_with fail
        refine (l7In_any _ _ _ k.d 6 _ H1.out.1 h0 (by decide)).mono ?_
        rintro e w1 ⟨rfl, rfl⟩
        rw [E0.out]
        go_wp2_with fail
        refine (l7In_any _ _ _ k.i 6 _ H1.out.2.1 h1 (by decide)).mono ?_
        rintro e w1 ⟨rfl, rfl⟩
        rw [E1.out]
        go_wp2_with fail
        refine (l7In_any _ _ _ k.r 36 _ H1.out.2.2 h2 (by decide)).mono ?_
        rintro e w1 ⟨rfl, rfl⟩
        rw [E2.out]
        go_wp2
        go_ret
        exact ⟨Kit.ret_bool Hf.out.symm, HB.out⟩
      | true =>
        have Hf := Lib.hid (show Co.ok k = Co.diag k by unfold Co.ok; rw [e0, e1, e2]; rfl)
        have hr := (Zs.fit_iff.1 e2).1
        have hn2 : n2 = 36 := by rw [← hr]; exact HL.out.2.2.symm
        have E0 := Lib.hid e0
        have E1 := Lib.hid e1
        have E2 := Lib.hid e2
        clear e0 e1 e2 hr
        subst hn2
        obtain ⟨ad, rfl, _⟩ := H1.out.2.2.2.1 (by omega)
        go_enter Try.func11, Try.ntmps11
        go_wp2_with fail
        refine (l7In_any _ _ _ k.d 6 _ H1.out.1 h0 (by decide)).mono ?_
        rintro e w1 ⟨rfl, rfl⟩
        rw [E0.out]
        go_wp2_with fail
        refine (l7In_any _ _ _ k.i 6 _ H1.out.2.1 h1 (by decide)).mono ?_
        rintro e w1 ⟨rfl, rfl⟩
        rw [E1.out]
        go_wp2_with fail
        refine (l7In_any _ _ _ k.r 36 _ H1.out.2.2 h2 (by decide)).mono ?_
        rintro e w1 ⟨rfl, rfl⟩
        rw [E2.out]
        go_wp2
        go_loop [3] (fun iv => ∃ a : Nat, a ≤ 6 ∧ iv = .int .i64 a ∧ Co.diagTo k a) (fun i => 6 - (intOf i).toNat)
        case atStart => exact ⟨0, Nat.zero_le _, rfl, fun j hj => absurd hj (Nat.not_lt_zero j)⟩
        case round =>
          obtain ⟨a, ha, rfl, hin⟩ := hrel
          have HI := Lib.hid hin
          clear hin
          by_cases hlt : a < 6
          · have c1 := H1.out.2.2.here (k := a * 6 + a) (by omega)
            obtain ⟨z, hz⟩ : ∃ z, z = Zs.at k.r (a * 6 + a) := ⟨_, rfl⟩
            rw [← hz] at c1
            have HZ := Lib.hid hz
            clear hz
            obtain ⟨p, hp⟩ : ∃ p, p = a * 6 + a := ⟨_, rfl⟩
            rw [← hp] at c1
            have k0 : decide ((a : Int) < 6) = true := by simp; omega
            have a1 : IntKind.i64.wrap ((a : Int) * 6) = (a : Int) * 6 := Kit.w64 (by omega) (by omega)
            have a2 : IntKind.i64.wrap ((a : Int) * 6 + (a : Int)) = (p : Int) := by rw [Kit.w64 (by omega) (by omega)]; omega
            have a3 : (a : Int) * 6 + (a : Int) = (p : Int) := by omega
            have k1 : (0 : Int) ≤ (p : Int) := by omega
            have k2 : (p : Int) < 36 := by omega
            have HP := Lib.hid hp
            clear hp
            by_cases hq : z = 0
            · have q : (z != 0) = false := by simpa using hq
              have Hq := Lib.hid hq
              clear hq
              go_wp2
              refine ⟨⟨a + 1, by omega, by go_num, fun j hj => ?_⟩, by simp [intOf]; omega⟩
              rcases Nat.lt_succ_iff_lt_or_eq.1 hj with h' | rfl
              · exact HI.out j h'
              · rw [← HZ.out]; exact Hq.out
            · have q : (z != 0) = true := by simpa using hq
              have Hd := Lib.hid (Co.diag_not (k := k) hlt (by rw [← HZ.out]; exact hq))
              clear hq
              go_wp2
              go_ret
              exact ⟨Kit.ret_bool (by rw [Hf.out, Hd.out]), HB.out⟩
          · obtain rfl : a = 6 := by omega
            have Hd := Lib.hid (Co.diag_all HI.out)
            go_wp2
            go_ret
            exact ⟨Kit.ret_bool (by rw [Hf.out, Hd.out]), HB.out⟩

end Go.Proofs.Ytnfjdlocmdgefaa

/- Contracts (RankI). -/
namespace Go.Proofs.Ytnfjdlocmdgefaa
open Go.RowKit
set_option linter.unusedVariables false

theorem Tr.rks_val {xs : Tr} (hok : Tr.ok xs = true) {k : Nat} (hk : k < xs.length) : Zs.at (Zs.up (Tr.rks xs)) k = (Tr.rk xs k : Nat) := by
  have := Tr.post_length hok
  rw [Zs.up_at _ _ (by rw [Tr.rks_length]; omega)]
  simp [Tr.rks]
theorem Tr.rk_sum {xs : Tr} (hok : Tr.ok xs = true) {k : Nat} (hk : k < xs.length) : Tr.endOf xs (k : Int) - 1 - Tr.d xs k = (Tr.rk xs k : Nat) := by
  have h1 := (Tr.endN_dn hok hk).1
  have h2 := Tr.dn_eq hok hk
  have h3 := Tr.dn_le hok hk
  rw [Tr.endOf_yes (Tr.has_iff.2 ⟨hok, by omega, by omega⟩)]
  unfold Tr.rk
  omega
set_option maxHeartbeats 1600000 in
set_option maxRecDepth 100000 in
theorem implRankOf_any (A : Option Addr) (n c : Nat) (xs : Tr) (w : World) (h : NdIn w w.heap.size A n xs) (hn : n ≤ 1048576) (hnc : n ≤ c) :
    Calls Try.prog 98 #[.slice A n c] w (OwnInts 3 (Zs.up (Tr.rks xs)) w) := by
  have H := Lib.hid h
  clear h
  have HL := Lib.hid H.out.1
  rcases hok : Tr.ok xs with _ | _
  · have Hf := Lib.hid (show Zs.up (Tr.rks xs) = [] by unfold Tr.rks; rw [Tr.post_none hok]; rfl)
    have Hok := Lib.hid hok
    clear hok
    go_enter Try.func98, Try.ntmps98
    go_wp2_with fail
    refine (implTreeOk_any _ _ _ xs _ H.out hn hnc).mono ?_
    rintro e w1 ⟨rfl, hb⟩
    have HB := Lib.hid hb
    clear hb
    rw [Hok.out]
    go_wp2
    go_ret
    exact ⟨_, _, by rw [Hf.out]; rfl, by rw [Hf.out]; exact own_nil, HB.out⟩
  · have hle := (Tr.ok_iff.1 hok).2
    have hpl := Tr.post_length hok
    rw [HL.out] at hle hpl
    obtain ⟨F, hF⟩ : ∃ F, F = Zs.up (Tr.rks xs) := ⟨_, rfl⟩
    have HFl := Lib.hid (show F.length = n by rw [hF, Zs.up_length, Tr.rks_length, hpl])
    have HFa := Lib.hid (fun k hk => (congrArg (fun G => Zs.at G k) hF).trans (Tr.rks_val hok (k := k) hk))
    have HS := Lib.hid (fun k hk => Tr.rk_sum hok (k := k) hk)
    have HE := Lib.hid (fun k hk => Tr.endN_dn hok (i := k) hk)
    have HY := Lib.hid (fun (k : Nat) (hk : k < xs.length) => Tr.endOf_yes (Tr.has_iff.2 ⟨hok, Int.natCast_nonneg k, Int.ofNat_lt.2 hk⟩))
    have HD := Lib.hid (fun k hk => (Tr.ok_at hok (k := k) hk).2.1)
    have HF := Lib.hid hF
    obtain ⟨i0, hi, hz0, hz1, hz2⟩ := info_parts info_intZ
    have Hi := Lib.hid hi
    have Hok := Lib.hid hok
    clear hi hok hF hpl
    obtain ⟨ad, rfl, had⟩ := H.out.2.1 (by omega)
    go_enter Try.func98, Try.ntmps98
    go_wp2_with fail
    refine (implTreeOk_any _ _ _ xs _ H.out hn hnc).mono ?_
    rintro e w1 ⟨rfl, hb⟩
    have HB := Lib.hid hb
    have H1 := Lib.hid (H.out.to_below hb)
    clear hb
    rw [Hok.out]
    obtain ⟨m, hm⟩ : ∃ m, m = n := ⟨_, rfl⟩
    have hmb : m ≤ 24 := by omega
    go_wp2_with (at_make; go_loud (refine wpList_make_full _ rfl _ _ 25 rfl w1.heap.size 3 i0 (.int .i64 0) 1 Try.underlying25 Hi.out hz0 hz1 _ _ _ _ n rfl rfl rfl rfl (by rw [hz2]; omega) (by unfold maxLen; omega) (Nat.le_refl _) ?_); intro w2 hown2 hgrow2)
    have hb2 : Below w1.heap.size w1 w2 := (Below.refl _ w1).grown hgrow2 (Nat.le_refl _) (fun _ h => by cases h)
    rw [made_zeros 0 n, show List.replicate n (0 : Int) = Zs.part F 0 by rw [Zs.part_zero, HFl.out]] at hown2
    have HO2 := Lib.hid hown2
    have HB2 := Lib.hid hb2
    clear hown2 hgrow2 hb2 hm hmb
    go_wp2
    go_loopw [14] (fun kv wr => ∃ k : Nat, k ≤ n ∧ kv = .int .i64 k ∧ wr.ownsRow w1.heap.size 3 1 (.slice (some ⟨w1.heap.size, 0, none⟩) n n) n (ints (Zs.part F k)) ∧ Below w1.heap.size w1 wr) (fun k _ => n - (intOf k).toNat)
    case atStart => exact ⟨0, Nat.zero_le _, rfl, HO2.out, HB2.out⟩
    case round =>
      clear HO2 HB2
      obtain ⟨k, hk, rfl, hown, hB⟩ := hrel
      have Ho := Lib.hid hown
      have HB2 := Lib.hid hB
      clear hown hB
      have hsz := HB2.out.size
      by_cases hlt : k < n
      · have hlx : k < xs.length := by rw [HL.out]; exact hlt
        obtain ⟨hl, hd⟩ := (H1.out.below HB2.out).here hlt
        have hs := HS.out k hlx
        have he := HE.out k hlx
        have hy := HY.out k hlx
        have hdd := HD.out k hlx
        have b0 : (0 : Int) ≤ (k : Int) := by omega
        have b1 : (k : Int) < (n : Int) := by omega
        have hfa := HFa.out k hlx
        have hxl := HL.out
        have hy0 : (0 : Int) ≤ Tr.endOf xs (k : Int) ∧ Tr.endOf xs (k : Int) ≤ 24 := by rw [hy]; omega
        have a1 : IntKind.i64.wrap (Tr.endOf xs (k : Int) - 1) = Tr.endOf xs (k : Int) - 1 := Kit.w64 (by omega) (by omega)
        have a2 : IntKind.i64.wrap (Tr.endOf xs (k : Int) - 1 - Tr.d xs k) = Tr.endOf xs (k : Int) - 1 - Tr.d xs k := Kit.w64 (by omega) (by omega)
        have hgl := (Ho.out.lt w1.heap.size rfl).2
        have hne : (⟨w1.heap.size, k, none⟩ : Addr) ≠ ⟨wr.heap.size, 1, none⟩ := fun e => by injection e; omega
        have S0 := Lib.hid (show (wr.alloc (.cells #[.int .i64 (Tr.l xs k), .int .i64 (Tr.d xs k)] 61)).drew.cell? ⟨wr.heap.size, 1, none⟩ = some (.int .i64 (Tr.d xs k)) by simp)
        have Hx := Lib.hid ((((H1.out.below HB2.out).more HB2.out.size).to_below ((Below.refl _ wr).alloc (Nat.le_refl _) (.cells #[.int .i64 (Tr.l xs k), .int .i64 (Tr.d xs k)] 61))).drew)
        have HBx := Lib.hid ((HB2.out.alloc hsz (.cells #[.int .i64 (Tr.l xs k), .int .i64 (Tr.d xs k)] 61)).drew)
        have Hox := Lib.hid (show (wr.alloc (.cells #[.int .i64 (Tr.l xs k), .int .i64 (Tr.d xs k)] 61)).drew.ownsRow w1.heap.size 3 1 (.slice (some ⟨w1.heap.size, 0, none⟩) n n) n (ints (Zs.part F k)) from Ho.out.alloc _)
        have hxz : wr.heap.size < (wr.alloc (.cells #[.int .i64 (Tr.l xs k), .int .i64 (Tr.d xs k)] 61)).drew.heap.size := by simp [World.drew]
        have Hpl := Lib.hid (Zs.part_length F k (by rw [HFl.out]; exact hk))
        have Hs := Lib.hid hs
        clear hy hdd he hy0 hs
        go_wp2_with fail
        go_region_held3 (fun wq => wq.cell? ⟨wr.heap.size, 1, none⟩ = some (.int .i64 (Tr.d xs k))) (first | exact S0.out | exact (hb.cell hxz).trans S0.out | (refine (World.cell?_setCell_other _ _ _ _ hne).trans ?_; assumption)) (first | (go_at_call 96; refine (implEndOf_any _ _ _ xs _ _ Hx.out hn hnc).mono ?_; rintro e w' ⟨rfl, hb⟩; have hox3 := own_below Hox.out hb; have c3 := own_int hox3 (k := k) (by rw [Hpl.out, HFl.out]; exact hlt); have f3 := hox3.frozenAt k))
        have Ho3 := Lib.hid hox3
        have HB3 := Lib.hid (HBx.out.trans (hb.mono HBx.out.size))
        clear hox3 hb c3 f3
        go_wp2
        go_roundw
        case rel =>
          refine ⟨k + 1, by omega, by go_num, ?_, HB3.out.setCell (Nat.le_refl _) _⟩
          have := (Ho3.out.stored k (.int .i64 (Tr.endOf xs (k : Int) - 1 - Tr.d xs k))).1
          rw [ints_set, Hs.out, ← hfa, Zs.part_set F k (by rw [HFl.out]; exact hlt), hfa, ← Hs.out] at this
          exact this
        case measure => simp [intOf]; omega
      · obtain rfl : k = n := by omega
        go_wp2
        go_ret
        rw [show Zs.part F k = F by rw [← HFl.out]; exact Zs.part_all F] at Ho
        exact ⟨_, _, by rw [← HF.out, HFl.out]; rfl, by rw [← HF.out, HFl.out]; exact own_base Ho.out HB.out.size, HB.out.trans (HB2.out.mono HB.out.size)⟩

end Go.Proofs.Ytnfjdlocmdgefaa

/- Contracts (PostI). -/
namespace Go.Proofs.Ytnfjdlocmdgefaa
open Go.RowKit
set_option linter.unusedVariables false

/-- the nodes that are known when k ranks are done -/
def Tr.postTo (xs : Tr) (k : Nat) : List Nat := (Tr.post xs).map fun i => if i < k then i else 0
theorem Tr.postTo_length (xs : Tr) (k : Nat) : (Tr.postTo xs k).length = (Tr.post xs).length := by simp [Tr.postTo]
theorem Tr.postTo_zero (xs : Tr) : Tr.postTo xs 0 = List.replicate (Tr.post xs).length 0 := by
  unfold Tr.postTo
  refine List.ext_getElem (by simp) fun i h1 h2 => by simp
theorem Tr.post_mem {xs : Tr} {j : Nat} (hj : j < (Tr.post xs).length) : (Tr.post xs)[j] < (Tr.post xs).length := by
  obtain ⟨i, h1, h2, h3, h4, h5⟩ := Tr.post_at hj
  rw [List.getElem?_eq_getElem hj] at h2
  injection h2 with h2
  omega
theorem Tr.postTo_all (xs : Tr) : Tr.postTo xs (Tr.post xs).length = Tr.post xs := by
  unfold Tr.postTo
  refine List.ext_getElem (by simp) fun j h1 h2 => ?_
  rw [List.getElem_map, if_pos (Tr.post_mem h2)]
theorem Tr.postTo_set {xs : Tr} {k : Nat} (hk : k < (Tr.post xs).length) : (Tr.postTo xs k).set (Tr.rk xs k) k = Tr.postTo xs (k + 1) := by
  obtain ⟨hok, hl⟩ := Tr.post_ok hk
  have hp := Tr.post_rk hok (j := k) (by omega)
  unfold Tr.postTo
  refine List.ext_getElem (by simp) fun j h1 h2 => ?_
  simp only [List.length_map] at h2
  by_cases e : Tr.rk xs k = j
  · subst e
    rw [List.getElem?_eq_getElem h2] at hp
    injection hp with hp
    simp [hp]
  · rw [List.getElem_set_ne e]
    simp only [List.getElem_map]
    obtain ⟨i, h3, h4, h5, _⟩ := Tr.post_at h2
    rw [List.getElem?_eq_getElem h2] at h4
    injection h4 with h4
    have hne : (Tr.post xs)[j] ≠ k := fun q => e (by rw [← h5, ← h4, q])
    by_cases q : (Tr.post xs)[j] < k
    · rw [if_pos q, if_pos (by omega)]
    · rw [if_neg q, if_neg (by omega)]
theorem Tr.rks_get {xs : Tr} {k : Nat} (hk : k < (Tr.post xs).length) : Zs.at (Zs.up (Tr.rks xs)) k = (Tr.rk xs k : Nat) ∧ Tr.rk xs k < (Tr.post xs).length := by
  obtain ⟨hok, hl⟩ := Tr.post_ok hk
  exact ⟨Tr.rks_val hok (by omega), by rw [hl]; exact Tr.rk_lt hok (by omega)⟩
theorem Zs.up_set (l : List Nat) (k a : Nat) : (Zs.up l).set k (a : Int) = Zs.up (l.set k a) := by simp [Zs.up, List.map_set]
set_option maxHeartbeats 1600000 in
set_option maxRecDepth 100000 in
theorem implPostOrder_any (A : Option Addr) (n c : Nat) (xs : Tr) (w : World) (h : NdIn w w.heap.size A n xs) (hn : n ≤ 1048576) (hnc : n ≤ c) :
    Calls Try.prog 95 #[.slice A n c] w (OwnInts 3 (Zs.up (Tr.post xs)) w) := by
  have H := Lib.hid h
  clear h
  have hml := Tr.post_len_le xs
  rw [H.out.1] at hml
  obtain ⟨m, hm⟩ : ∃ m, m = (Tr.post xs).length := ⟨_, rfl⟩
  have HM := Lib.hid hm
  have HRL := Lib.hid (show (Zs.up (Tr.rks xs)).length = m by rw [Zs.up_length, Tr.rks_length, hm])
  have HS := Lib.hid (fun k (hk : k < m) => Tr.postTo_set (xs := xs) (k := k) (by rw [← hm]; exact hk))
  have HR := Lib.hid (fun k (hk : k < m) => Tr.rks_get (xs := xs) (k := k) (by rw [← hm]; exact hk))
  rw [← hm] at hml
  clear hm
  obtain ⟨i0, hi, hz0, hz1, hz2⟩ := info_parts info_intZ
  have Hi := Lib.hid hi
  clear hi
  go_enter Try.func95, Try.ntmps95
  go_wp2_with fail
  refine (implRankOf_any _ _ _ xs _ H.out hn hnc).mono ?_
  rintro e w1 ⟨A1, c1, rfl, ho, hb⟩
  have HB := Lib.hid hb
  have I1 := Lib.hid (IntIn.of_own ho)
  clear ho hb
  rw [HRL.out] at I1 ⊢
  have HZ0 := Lib.hid (show List.replicate m (0 : Int) = Zs.up (Tr.postTo xs 0) by rw [Tr.postTo_zero, ← HM.out]; simp [Zs.up])
  go_wp2_with (at_make; go_loud (refine wpList_make_full _ rfl _ _ 25 rfl w1.heap.size 3 i0 (.int .i64 0) 1 Try.underlying25 Hi.out hz0 hz1 _ _ _ _ m rfl rfl rfl rfl (by rw [hz2]; omega) (by unfold maxLen; omega) (Nat.le_refl _) ?_); intro w2 hown2 hgrow2)
  have hb2 : Below w1.heap.size w1 w2 := (Below.refl _ w1).grown hgrow2 (Nat.le_refl _) (fun _ h => by cases h)
  rw [made_zeros 0 m, HZ0.out] at hown2
  have HO2 := Lib.hid hown2
  have HB2 := Lib.hid hb2
  clear hown2 hgrow2 hb2
  go_wp2
  go_loopw [14] (fun kv wr => ∃ k : Nat, k ≤ m ∧ kv = .int .i64 k ∧ wr.ownsRow w1.heap.size 3 1 (.slice (some ⟨w1.heap.size, 0, none⟩) m m) m (ints (Zs.up (Tr.postTo xs k))) ∧ Below w1.heap.size w1 wr) (fun k _ => m - (intOf k).toNat)
  case atStart => exact ⟨0, Nat.zero_le _, rfl, HO2.out, HB2.out⟩
  case round =>
    clear HO2 HB2
    obtain ⟨k, hk, rfl, hown, hB⟩ := hrel
    have Ho := Lib.hid hown
    have HB2 := Lib.hid hB
    clear hown hB
    by_cases hlt : k < m
    · obtain ⟨hr1, hr2⟩ := HR.out k hlt
      have hset := HS.out k hlt
      rw [← HM.out] at hr2
      obtain ⟨ad, rfl, _, c1⟩ := (I1.out.below HB2.out).at_ hlt
      rw [hr1] at c1
      obtain ⟨p, hp⟩ : ∃ p, p = Tr.rk xs k := ⟨_, rfl⟩
      rw [← hp] at hr2 c1 hset
      have c0 := own_int Ho.out (k := p) (by rw [Zs.up_length, Tr.postTo_length, ← HM.out]; exact hr2)
      have f0 := Ho.out.frozenAt p
      have b0 : (0 : Int) ≤ (p : Int) := by omega
      have b1 : (p : Int) < (m : Int) := by omega
      have b2 : (0 : Int) ≤ (k : Int) := by omega
      have b3 : (k : Int) < (m : Int) := by omega
      have Hset := Lib.hid hset
      clear hset hr1 hr2 hp
      go_wp2
      go_roundw
      case rel =>
        refine ⟨k + 1, by omega, by go_num, ?_, HB2.out.setCell (Nat.le_refl _) _⟩
        have := (Ho.out.stored p (.int .i64 (k : Int))).1
        rw [ints_set, Zs.up_set, Hset.out] at this
        exact this
      case measure => simp [intOf]; omega
    · obtain rfl : k = m := by omega
      have Hf := Lib.hid (show Tr.postTo xs k = Tr.post xs by rw [HM.out]; exact Tr.postTo_all xs)
      rw [Hf.out] at Ho
      go_wp2
      go_ret
      exact ⟨_, _, by rw [Zs.up_length, ← HM.out]; rfl, by rw [Zs.up_length, ← HM.out]; exact own_base Ho.out HB.out.size, HB.out.trans (HB2.out.mono HB.out.size)⟩

end Go.Proofs.Ytnfjdlocmdgefaa

/- Contracts (LeafI). -/
namespace Go.Proofs.Ytnfjdlocmdgefaa
open Go.RowKit
set_option linter.unusedVariables false

theorem Tr.lfs_get {xs : Tr} {k : Nat} (hk : k < (Tr.post xs).length) : ∃ i, i < xs.length ∧ Zs.at (Zs.up (Tr.post xs)) k = (i : Int) ∧ Zs.at (Zs.up (Tr.lfs xs)) k = (i : Int) - Tr.d xs i ∧ 0 ≤ Tr.d xs i ∧ Tr.d xs i ≤ 12 := by
  obtain ⟨i, h1, h2, h3, hok, hl⟩ := Tr.post_at hk
  have hi : i < xs.length := by omega
  rw [List.getElem?_eq_getElem hk] at h2
  injection h2 with h2
  have hd := Tr.dn_eq hok hi
  have hd2 := Tr.dn_le hok hi
  refine ⟨i, hi, by rw [Zs.up_at _ _ hk, h2], ?_, (Tr.ok_at hok hi).2.1⟩
  rw [Zs.up_at _ _ (by rw [Tr.lfs_length]; exact hk)]
  simp only [Tr.lfs, List.getElem_map, h2]
  omega
set_option maxHeartbeats 1600000 in
set_option maxRecDepth 100000 in
theorem implLeftLeaf_any (A : Option Addr) (n c : Nat) (xs : Tr) (w : World) (h : NdIn w w.heap.size A n xs) (hn : n ≤ 1048576) (hnc : n ≤ c) :
    Calls Try.prog 93 #[.slice A n c] w (OwnInts 3 (Zs.up (Tr.lfs xs)) w) := by
  have H := Lib.hid h
  clear h
  have HL := Lib.hid H.out.1
  have hml := Tr.post_len_le xs
  rw [H.out.1] at hml
  obtain ⟨m, hm⟩ : ∃ m, m = (Tr.post xs).length := ⟨_, rfl⟩
  have HM := Lib.hid hm
  have HRL := Lib.hid (show (Zs.up (Tr.post xs)).length = m by rw [Zs.up_length, hm])
  have HR := Lib.hid (fun k (hk : k < m) => Tr.lfs_get (xs := xs) (k := k) (by rw [← hm]; exact hk))
  obtain ⟨F, hF⟩ : ∃ F, F = Zs.up (Tr.lfs xs) := ⟨_, rfl⟩
  have HFl := Lib.hid (show F.length = m by rw [hF, Zs.up_length, Tr.lfs_length, hm])
  have HF := Lib.hid hF
  rw [← hm] at hml
  clear hm hF
  obtain ⟨i0, hi, hz0, hz1, hz2⟩ := info_parts info_intZ
  have Hi := Lib.hid hi
  clear hi
  go_enter Try.func93, Try.ntmps93
  go_wp2_with fail
  refine (implPostOrder_any _ _ _ xs _ H.out hn hnc).mono ?_
  rintro e w1 ⟨A1, c1, rfl, ho, hb⟩
  have HB := Lib.hid hb
  have I1 := Lib.hid (IntIn.of_own ho)
  have H1 := Lib.hid (H.out.to_below hb)
  clear ho hb
  rw [HRL.out] at I1 ⊢
  have HZ0 := Lib.hid (show List.replicate m (0 : Int) = Zs.part F 0 by rw [Zs.part_zero, HFl.out])
  go_wp2_with (at_make; go_loud (refine wpList_make_full _ rfl _ _ 25 rfl w1.heap.size 3 i0 (.int .i64 0) 1 Try.underlying25 Hi.out hz0 hz1 _ _ _ _ m rfl rfl rfl rfl (by rw [hz2]; omega) (by unfold maxLen; omega) (Nat.le_refl _) ?_); intro w2 hown2 hgrow2)
  have hb2 : Below w1.heap.size w1 w2 := (Below.refl _ w1).grown hgrow2 (Nat.le_refl _) (fun _ h => by cases h)
  rw [made_zeros 0 m, HZ0.out] at hown2
  have HO2 := Lib.hid hown2
  have HB2 := Lib.hid hb2
  clear hown2 hgrow2 hb2
  go_wp2
  go_loopw [14] (fun kv wr => ∃ k : Nat, k ≤ m ∧ kv = .int .i64 k ∧ wr.ownsRow w1.heap.size 3 1 (.slice (some ⟨w1.heap.size, 0, none⟩) m m) m (ints (Zs.part F k)) ∧ Below w1.heap.size w1 wr) (fun k _ => m - (intOf k).toNat)
  case atStart => exact ⟨0, Nat.zero_le _, rfl, HO2.out, HB2.out⟩
  case round =>
    clear HO2 HB2
    obtain ⟨k, hk, rfl, hown, hB⟩ := hrel
    have Ho := Lib.hid hown
    have HB2 := Lib.hid hB
    clear hown hB
    by_cases hlt : k < m
    · obtain ⟨i, r1, r2, r3, r4, r5⟩ := HR.out k hlt
      rw [← HF.out] at r3
      rw [HL.out] at r1
      obtain ⟨ad, rfl, _, c1⟩ := (I1.out.below HB2.out).at_ hlt
      rw [r2] at c1
      obtain ⟨ad2, rfl, _, l1, d1⟩ := (H1.out.below HB2.out).at_ r1
      have c0 := own_int Ho.out (k := k) (by rw [Zs.part_length F k (by rw [HFl.out]; exact hk), HFl.out]; exact hlt)
      have f0 := Ho.out.frozenAt k
      have b0 : (0 : Int) ≤ (i : Int) := by omega
      have b1 : (i : Int) < (n : Int) := by omega
      have b2 : (0 : Int) ≤ (k : Int) := by omega
      have b3 : (k : Int) < (m : Int) := by omega
      have a1 : IntKind.i64.wrap ((i : Int) - Tr.d xs i) = (i : Int) - Tr.d xs i := Kit.w64 (by omega) (by omega)
      have R3 := Lib.hid r3
      clear r2 r3 r4 r5 l1
      go_wp2
      go_roundw
      case rel =>
        refine ⟨k + 1, by omega, by go_num, ?_, HB2.out.setCell (Nat.le_refl _) _⟩
        have := (Ho.out.stored k (.int .i64 ((i : Int) - Tr.d xs i))).1
        rw [ints_set, ← R3.out, Zs.part_set F k (by rw [HFl.out]; exact hlt), R3.out] at this
        exact this
      case measure => simp [intOf]; omega
    · obtain rfl : k = m := by omega
      have Hf := Lib.hid (show Zs.part F k = F by rw [← HFl.out]; exact Zs.part_all F)
      rw [Hf.out] at Ho
      go_wp2
      go_ret
      exact ⟨_, _, by rw [← HF.out, HFl.out]; rfl, by rw [← HF.out, HFl.out]; exact own_base Ho.out HB.out.size, HB.out.trans (HB2.out.mono HB.out.size)⟩

end Go.Proofs.Ytnfjdlocmdgefaa
