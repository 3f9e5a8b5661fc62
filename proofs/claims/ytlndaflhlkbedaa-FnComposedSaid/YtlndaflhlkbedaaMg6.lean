/- Texts of one claim laid into one file, in build order: HasI, EndOfI, RankI, PostI, LeafI, SlI, SlC, KeyI, StepA, Three, UnitS, SideI, FullM, Krl. -/
import Derived.Test.YtlndaflhlkbedaaMg5
import Derived.Deep.RegionHeld3
import Derived.Deep.RegionLaw
import Derived.Laws.OwnMore
import Derived.Laws.Tables
import Derived.Outline
import Derived.Test.YtlndaflhlkbedaaRows
/- Contracts (HasI). -/
namespace Go.Proofs.Ytlndaflhlkbedaa
open Go.RowKit
set_option linter.unusedVariables false

set_option maxHeartbeats 800000 in
set_option maxRecDepth 100000 in
theorem hasNode_any (A : Option Addr) (n c : Nat) (xs : Tr) (i : Int) (w : World) (h : NdIn w w.heap.size A n xs) (hn : n ≤ 1048576) (hnc : n ≤ c) :
    Calls Try.prog 98 #[.slice A n c, .int .i64 i] w fun e w' => e = .returned (.bool (Tr.has xs i)) ∧ Below w.heap.size w w' := by
  have H := Lib.hid h
  clear h
  have HL := Lib.hid H.out.1
  by_cases h0 : 0 ≤ i
  · by_cases h1 : i < n
    · have Hs := Lib.hid (show Tr.has xs i = Tr.ok xs by simp [Tr.has, HL.out, h0, h1])
      go_enter Try.func98, Try.ntmps98
      go_wp2_with (go_at_call 97; refine (implTreeOk_any _ _ _ xs _ H.out hn hnc).mono ?_; rintro e w1 ⟨rfl, hb⟩)
      go_ret
      exact ⟨Kit.ret_bool Hs.out.symm, hb⟩
    · have Hs := Lib.hid (show Tr.has xs i = false by simp [Tr.has, HL.out, h1])
      go_enter Try.func98, Try.ntmps98
      go_wp2
      go_ret
      exact ⟨Kit.ret_bool Hs.out.symm, Below.refl _ _⟩
  · have Hs := Lib.hid (show Tr.has xs i = false by simp [Tr.has, h0])
    have h0' : decide (0 ≤ i) = false := by simpa using h0
    go_enter Try.func98, Try.ntmps98
    go_wp2
    go_ret
    exact ⟨Kit.ret_bool Hs.out.symm, Below.refl _ _⟩

end Go.Proofs.Ytlndaflhlkbedaa

/- Contracts (EndOfI). -/
namespace Go.Proofs.Ytlndaflhlkbedaa
open Go.RowKit
set_option linter.unusedVariables false

set_option maxHeartbeats 800000 in
set_option maxRecDepth 100000 in
theorem implEndOf_any (A : Option Addr) (n c : Nat) (xs : Tr) (i : Int) (w : World) (h : NdIn w w.heap.size A n xs) (hn : n ≤ 1048576) (hnc : n ≤ c) :
    Calls Try.prog 143 #[.slice A n c, .int .i64 i] w fun e w' => e = .returned (.int .i64 (Tr.endOf xs i)) ∧ Below w.heap.size w w' := by
  have H := Lib.hid h
  clear h
  have HL := Lib.hid H.out.1
  rcases hok : Tr.has xs i with _ | _
  · have Hf := Lib.hid (show Tr.endOf xs i = -1 by simp [Tr.endOf, hok])
    have Hok := Lib.hid hok
    clear hok
    go_enter Try.func143, Try.ntmps143
    go_wp2_with fail
    refine (hasNode_any _ _ _ xs _ _ H.out hn hnc).mono ?_
    rintro e w1 ⟨rfl, hd⟩
    rw [Hok.out]
    go_wp2
    go_ret
    exact ⟨Kit.ret_int Hf.out.symm, hd⟩
  · have h1 := (Tr.has_iff.1 hok).2
    rw [HL.out] at h1
    have Hf := Lib.hid (show Tr.endOf xs i = Tr.endN xs i.toNat by simp [Tr.endOf, hok])
    have Hok := Lib.hid hok
    clear hok
    obtain ⟨j, rfl⟩ := Int.eq_ofNat_of_zero_le h1.1
    have hj : j < n := by omega
    clear h1
    go_enter Try.func143, Try.ntmps143
    go_wp2_with fail
    refine (hasNode_any _ _ _ xs _ _ H.out hn hnc).mono ?_
    rintro e w1 ⟨rfl, hd1⟩
    have Hd1 := Lib.hid hd1
    have H1 := Lib.hid (H.out.below Hd1.out)
    clear hd1
    rw [Hok.out]
    go_wp2
    go_loopw [5] (fun kv wr => ∃ k : Nat, j < k ∧ k ≤ n ∧ kv = .int .i64 k ∧ (∀ m, j < m → m < k → Tr.d xs j < Tr.d xs m) ∧ Drawn w1 wr) (fun k _ => n - (intOf k).toNat)
    case atStart => exact ⟨j + 1, by omega, by omega, by go_num, fun m h1 h2 => absurd h1 (by omega), Drawn.refl _⟩
    case round =>
      obtain ⟨k, hjk, hk, rfl, hall, hD⟩ := hrel
      have Hall := Lib.hid hall
      clear hall
      have hk0 : (0 : Int) ≤ (k : Int) := by omega
      have hj0 : (0 : Int) ≤ (j : Int) := by omega
      by_cases hlt : k < n
      · have hltd : decide (k < n) = true := by simpa using hlt
        obtain ⟨ad, rfl, hb, hl, hd⟩ := (H1.out.drawn hD).at_ hlt
        obtain ⟨hl', hd'⟩ := (H1.out.drawn hD).here hj
        clear hl hl'
        by_cases hgt : Tr.d xs j < Tr.d xs k
        · have hg : decide (Tr.d xs j < Tr.d xs k) = true := by simpa using hgt
          have Hg := Lib.hid hgt
          clear hgt
          go_wp2
          go_quiet (fail)
          go_wp2
          go_roundw
          case rel => exact ⟨k + 1, by omega, by omega, by go_num, fun m h1 h2 => by
            rcases Nat.lt_succ_iff_lt_or_eq.1 h2 with h' | rfl
            · exact Hall.out m h1 h'
            · exact Hg.out, hD.drewN _⟩
          case measure => simp [intOf]; omega
        · have hg : decide (Tr.d xs j < Tr.d xs k) = false := by simpa using hgt
          have He := Lib.hid (Tr.endN_is (xs := xs) hjk (by rw [HL.out]; exact hk) Hall.out (.inr (by omega)))
          clear hgt
          go_wp2
          go_quiet (fail)
          go_wp2
          go_ret
          exact ⟨Kit.ret_int (by rw [Hf.out, Int.toNat_natCast, He.out]), Drawn.below Hd1.out (hD.drewN _)⟩
      · have hltd : decide (k < n) = false := by simpa using hlt
        obtain rfl : k = n := by omega
        have He := Lib.hid (Tr.endN_is (xs := xs) hjk (by rw [HL.out]; exact hk) Hall.out (.inl HL.out.symm))
        go_wp2
        go_quiet (fail)
        go_wp2
        go_ret
        exact ⟨Kit.ret_int (by rw [Hf.out, Int.toNat_natCast, He.out]), Drawn.below Hd1.out (hD.drewN _)⟩

end Go.Proofs.Ytlndaflhlkbedaa

/- Contracts (RankI). -/
namespace Go.Proofs.Ytlndaflhlkbedaa
open Go.RowKit
set_option linter.unusedVariables false

theorem Tr.rks_val {xs : Tr} (hok : Tr.ok xs = true) {k : Nat} (hk : k < xs.length) : Zs.at (Zs.up (Tr.rks xs)) k = (Tr.rk xs k : Nat) := by
  have := Tr.post_length hok
  rw [Zs.up_at _ _ (by rw [Tr.rks_length]; omega)]
  simp [Tr.rks]
theorem Tr.rk_sum {xs : Tr} (hok : Tr.ok xs = true) {k : Nat} (hk : k < xs.length) : Tr.endOf xs (k : Int) - 1 - Tr.d xs k = (Tr.rk xs k : Nat) := by
  have h1 := (Tr.endN_dn hok hk).1
  have h2 := Tr.dn_eq hok hk
  have h3 := Tr.dn_le hok hk
  rw [Tr.endOf_yes (Tr.has_iff.2 ⟨hok, by omega, by omega⟩)]
  unfold Tr.rk
  omega
set_option maxHeartbeats 1600000 in
set_option maxRecDepth 100000 in
theorem implRankOf_any (A : Option Addr) (n c : Nat) (xs : Tr) (w : World) (h : NdIn w w.heap.size A n xs) (hn : n ≤ 1048576) (hnc : n ≤ c) :
    Calls Try.prog 131 #[.slice A n c] w (OwnInts 3 (Zs.up (Tr.rks xs)) w) := by
  have H := Lib.hid h
  clear h
  have HL := Lib.hid H.out.1
  rcases hok : Tr.ok xs with _ | _
  · have Hf := Lib.hid (show Zs.up (Tr.rks xs) = [] by unfold Tr.rks; rw [Tr.post_none hok]; rfl)
    have Hok := Lib.hid hok
    clear hok
    go_enter Try.func131, Try.ntmps131
    go_wp2_with fail
    refine (implTreeOk_any _ _ _ xs _ H.out hn hnc).mono ?_
    rintro e w1 ⟨rfl, hb⟩
    have HB := Lib.hid hb
    clear hb
    rw [Hok.out]
    go_wp2
    go_ret
    exact ⟨_, _, by rw [Hf.out]; rfl, by rw [Hf.out]; exact own_nil, HB.out⟩
  · have hle := (Tr.ok_iff.1 hok).2
    have hpl := Tr.post_length hok
    rw [HL.out] at hle hpl
    obtain ⟨F, hF⟩ : ∃ F, F = Zs.up (Tr.rks xs) := ⟨_, rfl⟩
    have HFl := Lib.hid (show F.length = n by rw [hF, Zs.up_length, Tr.rks_length, hpl])
    have HFa := Lib.hid (fun k hk => (congrArg (fun G => Zs.at G k) hF).trans (Tr.rks_val hok (k := k) hk))
    have HS := Lib.hid (fun k hk => Tr.rk_sum hok (k := k) hk)
    have HE := Lib.hid (fun k hk => Tr.endN_dn hok (i := k) hk)
    have HY := Lib.hid (fun (k : Nat) (hk : k < xs.length) => Tr.endOf_yes (Tr.has_iff.2 ⟨hok, Int.natCast_nonneg k, Int.ofNat_lt.2 hk⟩))
    have HD := Lib.hid (fun k hk => (Tr.ok_at hok (k := k) hk).2.1)
    have HF := Lib.hid hF
    obtain ⟨i0, hi, hz0, hz1, hz2⟩ := info_parts info_intZ
    have Hi := Lib.hid hi
    have Hok := Lib.hid hok
    clear hi hok hF hpl
    obtain ⟨ad, rfl, had⟩ := H.out.2.1 (by omega)
    go_enter Try.func131, Try.ntmps131
    go_wp2_with fail
    refine (implTreeOk_any _ _ _ xs _ H.out hn hnc).mono ?_
    rintro e w1 ⟨rfl, hb⟩
    have HB := Lib.hid hb
    have H1 := Lib.hid (H.out.to_below hb)
    clear hb
    rw [Hok.out]
    obtain ⟨m, hm⟩ : ∃ m, m = n := ⟨_, rfl⟩
    have hmb : m ≤ 24 := by omega
    go_wp2_with (at_make; go_loud (refine wpList_make_full _ rfl _ _ 25 rfl w1.heap.size 3 i0 (.int .i64 0) 1 Try.underlying25 Hi.out hz0 hz1 _ _ _ _ n rfl rfl rfl rfl (by rw [hz2]; omega) (by unfold maxLen; omega) (Nat.le_refl _) ?_); intro w2 hown2 hgrow2)
    have hb2 : Below w1.heap.size w1 w2 := (Below.refl _ w1).grown hgrow2 (Nat.le_refl _) (fun _ h => by cases h)
    rw [made_zeros 0 n, show List.replicate n (0 : Int) = Zs.part F 0 by rw [Zs.part_zero, HFl.out]] at hown2
    have HO2 := Lib.hid hown2
    have HB2 := Lib.hid hb2
    clear hown2 hgrow2 hb2 hm hmb
    go_wp2
    go_loopw [14] (fun kv wr => ∃ k : Nat, k ≤ n ∧ kv = .int .i64 k ∧ wr.ownsRow w1.heap.size 3 1 (.slice (some ⟨w1.heap.size, 0, none⟩) n n) n (ints (Zs.part F k)) ∧ Below w1.heap.size w1 wr) (fun k _ => n - (intOf k).toNat)
    case atStart => exact ⟨0, Nat.zero_le _, rfl, HO2.out, HB2.out⟩
    case round =>
      clear HO2 HB2
      obtain ⟨k, hk, rfl, hown, hB⟩ := hrel
      have Ho := Lib.hid hown
      have HB2 := Lib.hid hB
      clear hown hB
      have hsz := HB2.out.size
      by_cases hlt : k < n
      · have hlx : k < xs.length := by rw [HL.out]; exact hlt
        obtain ⟨hl, hd⟩ := (H1.out.below HB2.out).here hlt
        have hs := HS.out k hlx
        have he := HE.out k hlx
        have hy := HY.out k hlx
        have hdd := HD.out k hlx
        have b0 : (0 : Int) ≤ (k : Int) := by omega
        have b1 : (k : Int) < (n : Int) := by omega
        have hfa := HFa.out k hlx
        have hxl := HL.out
        have hy0 : (0 : Int) ≤ Tr.endOf xs (k : Int) ∧ Tr.endOf xs (k : Int) ≤ 24 := by rw [hy]; omega
        have a1 : IntKind.i64.wrap (Tr.endOf xs (k : Int) - 1) = Tr.endOf xs (k : Int) - 1 := Kit.w64 (by omega) (by omega)
        have a2 : IntKind.i64.wrap (Tr.endOf xs (k : Int) - 1 - Tr.d xs k) = Tr.endOf xs (k : Int) - 1 - Tr.d xs k := Kit.w64 (by omega) (by omega)
        have hgl := (Ho.out.lt w1.heap.size rfl).2
        have hne : (⟨w1.heap.size, k, none⟩ : Addr) ≠ ⟨wr.heap.size, 1, none⟩ := fun e => by injection e; omega
        have S0 := Lib.hid (show (wr.alloc (.cells #[.int .i64 (Tr.l xs k), .int .i64 (Tr.d xs k)] 42)).drew.cell? ⟨wr.heap.size, 1, none⟩ = some (.int .i64 (Tr.d xs k)) by simp)
        have Hx := Lib.hid ((((H1.out.below HB2.out).more HB2.out.size).to_below ((Below.refl _ wr).alloc (Nat.le_refl _) (.cells #[.int .i64 (Tr.l xs k), .int .i64 (Tr.d xs k)] 42))).drew)
        have HBx := Lib.hid ((HB2.out.alloc hsz (.cells #[.int .i64 (Tr.l xs k), .int .i64 (Tr.d xs k)] 42)).drew)
        have Hox := Lib.hid (show (wr.alloc (.cells #[.int .i64 (Tr.l xs k), .int .i64 (Tr.d xs k)] 42)).drew.ownsRow w1.heap.size 3 1 (.slice (some ⟨w1.heap.size, 0, none⟩) n n) n (ints (Zs.part F k)) from Ho.out.alloc _)
        have hxz : wr.heap.size < (wr.alloc (.cells #[.int .i64 (Tr.l xs k), .int .i64 (Tr.d xs k)] 42)).drew.heap.size := by simp [World.drew]
        have Hpl := Lib.hid (Zs.part_length F k (by rw [HFl.out]; exact hk))
        have Hs := Lib.hid hs
        clear hy hdd he hy0 hs
        go_wp2_with fail
        go_region_held3 (fun wq => wq.cell? ⟨wr.heap.size, 1, none⟩ = some (.int .i64 (Tr.d xs k))) (first | exact S0.out | exact (hb.cell hxz).trans S0.out | (refine (World.cell?_setCell_other _ _ _ _ hne).trans ?_; assumption)) (first | (go_at_call 143; refine (implEndOf_any _ _ _ xs _ _ Hx.out hn hnc).mono ?_; rintro e w' ⟨rfl, hb⟩; have hox3 := own_below Hox.out hb; have c3 := own_int hox3 (k := k) (by rw [Hpl.out, HFl.out]; exact hlt); have f3 := hox3.frozenAt k))
        have Ho3 := Lib.hid hox3
        have HB3 := Lib.hid (HBx.out.trans (hb.mono HBx.out.size))
        clear hox3 hb c3 f3
        go_wp2
        go_roundw
        case rel =>
          refine ⟨k + 1, by omega, by go_num, ?_, HB3.out.setCell (Nat.le_refl _) _⟩
          have := (Ho3.out.stored k (.int .i64 (Tr.endOf xs (k : Int) - 1 - Tr.d xs k))).1
          rw [ints_set, Hs.out, ← hfa, Zs.part_set F k (by rw [HFl.out]; exact hlt), hfa, ← Hs.out] at this
          exact this
        case measure => simp [intOf]; omega
      · obtain rfl : k = n := by omega
        go_wp2
        go_ret
        rw [show Zs.part F k = F by rw [← HFl.out]; exact Zs.part_all F] at Ho
        exact ⟨_, _, by rw [← HF.out, HFl.out]; rfl, by rw [← HF.out, HFl.out]; exact own_base Ho.out HB.out.size, HB.out.trans (HB2.out.mono HB.out.size)⟩

end Go.Proofs.Ytlndaflhlkbedaa

/- Contracts (PostI). -/
namespace Go.Proofs.Ytlndaflhlkbedaa
open Go.RowKit
set_option linter.unusedVariables false

/-- the nodes that are known when k ranks are done -/
def Tr.postTo (xs : Tr) (k : Nat) : List Nat := (Tr.post xs).map fun i => if i < k then i else 0
theorem Tr.postTo_length (xs : Tr) (k : Nat) : (Tr.postTo xs k).length = (Tr.post xs).length := by simp [Tr.postTo]
theorem Tr.postTo_zero (xs : Tr) : Tr.postTo xs 0 = List.replicate (Tr.post xs).length 0 := by
  unfold Tr.postTo
  refine List.ext_getElem (by simp) fun i h1 h2 => by simp
theorem Tr.post_mem {xs : Tr} {j : Nat} (hj : j < (Tr.post xs).length) : (Tr.post xs)[j] < (Tr.post xs).length := by
  obtain ⟨i, h1, h2, h3, h4, h5⟩ := Tr.post_at hj
  rw [List.getElem?_eq_getElem hj] at h2
  injection h2 with h2
  omega
theorem Tr.postTo_all (xs : Tr) : Tr.postTo xs (Tr.post xs).length = Tr.post xs := by
  unfold Tr.postTo
  refine List.ext_getElem (by simp) fun j h1 h2 => ?_
  rw [List.getElem_map, if_pos (Tr.post_mem h2)]
theorem Tr.postTo_set {xs : Tr} {k : Nat} (hk : k < (Tr.post xs).length) : (Tr.postTo xs k).set (Tr.rk xs k) k = Tr.postTo xs (k + 1) := by
  obtain ⟨hok, hl⟩ := Tr.post_ok hk
  have hp := Tr.post_rk hok (j := k) (by omega)
  unfold Tr.postTo
  refine List.ext_getElem (by simp) fun j h1 h2 => ?_
  simp only [List.length_map] at h2
  by_cases e : Tr.rk xs k = j
  · subst e
    rw [List.getElem?_eq_getElem h2] at hp
    injection hp with hp
    simp [hp]
  · rw [List.getElem_set_ne e]
    simp only [List.getElem_map]
    obtain ⟨i, h3, h4, h5, _⟩ := Tr.post_at h2
    rw [List.getElem?_eq_getElem h2] at h4
    injection h4 with h4
    have hne : (Tr.post xs)[j] ≠ k := fun q => e (by rw [← h5, ← h4, q])
    by_cases q : (Tr.post xs)[j] < k
    · rw [if_pos q, if_pos (by omega)]
    · rw [if_neg q, if_neg (by omega)]
theorem Tr.rks_get {xs : Tr} {k : Nat} (hk : k < (Tr.post xs).length) : Zs.at (Zs.up (Tr.rks xs)) k = (Tr.rk xs k : Nat) ∧ Tr.rk xs k < (Tr.post xs).length := by
  obtain ⟨hok, hl⟩ := Tr.post_ok hk
  exact ⟨Tr.rks_val hok (by omega), by rw [hl]; exact Tr.rk_lt hok (by omega)⟩
theorem Zs.up_set (l : List Nat) (k a : Nat) : (Zs.up l).set k (a : Int) = Zs.up (l.set k a) := by simp [Zs.up, List.map_set]
set_option maxHeartbeats 1600000 in
set_option maxRecDepth 100000 in
theorem implPostOrder_any (A : Option Addr) (n c : Nat) (xs : Tr) (w : World) (h : NdIn w w.heap.size A n xs) (hn : n ≤ 1048576) (hnc : n ≤ c) :
    Calls Try.prog 94 #[.slice A n c] w (OwnInts 3 (Zs.up (Tr.post xs)) w) := by
  have H := Lib.hid h
  clear h
  have hml := Tr.post_len_le xs
  rw [H.out.1] at hml
  obtain ⟨m, hm⟩ : ∃ m, m = (Tr.post xs).length := ⟨_, rfl⟩
  have HM := Lib.hid hm
  have HRL := Lib.hid (show (Zs.up (Tr.rks xs)).length = m by rw [Zs.up_length, Tr.rks_length, hm])
  have HS := Lib.hid (fun k (hk : k < m) => Tr.postTo_set (xs := xs) (k := k) (by rw [← hm]; exact hk))
  have HR := Lib.hid (fun k (hk : k < m) => Tr.rks_get (xs := xs) (k := k) (by rw [← hm]; exact hk))
  rw [← hm] at hml
  clear hm
  obtain ⟨i0, hi, hz0, hz1, hz2⟩ := info_parts info_intZ
  have Hi := Lib.hid hi
  clear hi
  go_enter Try.func94, Try.ntmps94
  go_wp2_with fail
  refine (implRankOf_any _ _ _ xs _ H.out hn hnc).mono ?_
  rintro e w1 ⟨A1, c1, rfl, ho, hb⟩
  have HB := Lib.hid hb
  have I1 := Lib.hid (IntIn.of_own ho)
  clear ho hb
  rw [HRL.out] at I1 ⊢
  have HZ0 := Lib.hid (show List.replicate m (0 : Int) = Zs.up (Tr.postTo xs 0) by rw [Tr.postTo_zero, ← HM.out]; simp [Zs.up])
  go_wp2_with (at_make; go_loud (refine wpList_make_full _ rfl _ _ 25 rfl w1.heap.size 3 i0 (.int .i64 0) 1 Try.underlying25 Hi.out hz0 hz1 _ _ _ _ m rfl rfl rfl rfl (by rw [hz2]; omega) (by unfold maxLen; omega) (Nat.le_refl _) ?_); intro w2 hown2 hgrow2)
  have hb2 : Below w1.heap.size w1 w2 := (Below.refl _ w1).grown hgrow2 (Nat.le_refl _) (fun _ h => by cases h)
  rw [made_zeros 0 m, HZ0.out] at hown2
  have HO2 := Lib.hid hown2
  have HB2 := Lib.hid hb2
  clear hown2 hgrow2 hb2
  go_wp2
  go_loopw [14] (fun kv wr => ∃ k : Nat, k ≤ m ∧ kv = .int .i64 k ∧ wr.ownsRow w1.heap.size 3 1 (.slice (some ⟨w1.heap.size, 0, none⟩) m m) m (ints (Zs.up (Tr.postTo xs k))) ∧ Below w1.heap.size w1 wr) (fun k _ => m - (intOf k).toNat)
  case atStart => exact ⟨0, Nat.zero_le _, rfl, HO2.out, HB2.out⟩
  case round =>
    clear HO2 HB2
    obtain ⟨k, hk, rfl, hown, hB⟩ := hrel
    have Ho := Lib.hid hown
    have HB2 := Lib.hid hB
    clear hown hB
    by_cases hlt : k < m
    · obtain ⟨hr1, hr2⟩ := HR.out k hlt
      have hset := HS.out k hlt
      rw [← HM.out] at hr2
      obtain ⟨ad, rfl, _, c1⟩ := (I1.out.below HB2.out).at_ hlt
      rw [hr1] at c1
      obtain ⟨p, hp⟩ : ∃ p, p = Tr.rk xs k := ⟨_, rfl⟩
      rw [← hp] at hr2 c1 hset
      have c0 := own_int Ho.out (k := p) (by rw [Zs.up_length, Tr.postTo_length, ← HM.out]; exact hr2)
      have f0 := Ho.out.frozenAt p
      have b0 : (0 : Int) ≤ (p : Int) := by omega
      have b1 : (p : Int) < (m : Int) := by omega
      have b2 : (0 : Int) ≤ (k : Int) := by omega
      have b3 : (k : Int) < (m : Int) := by omega
      have Hset := Lib.hid hset
      clear hset hr1 hr2 hp
      go_wp2
      go_roundw
      case rel =>
        refine ⟨k + 1, by omega, by go_num, ?_, HB2.out.setCell (Nat.le_refl _) _⟩
        have := (Ho.out.stored p (.int .i64 (k : Int))).1
        rw [ints_set, Zs.up_set, Hset.out] at this
        exact this
      case measure => simp [intOf]; omega
    · obtain rfl : k = m := by omega
      have Hf := Lib.hid (show Tr.postTo xs k = Tr.post xs by rw [HM.out]; exact Tr.postTo_all xs)
      rw [Hf.out] at Ho
      go_wp2
      go_ret
      exact ⟨_, _, by rw [Zs.up_length, ← HM.out]; rfl, by rw [Zs.up_length, ← HM.out]; exact own_base Ho.out HB.out.size, HB.out.trans (HB2.out.mono HB.out.size)⟩

end Go.Proofs.Ytlndaflhlkbedaa

/- Contracts (LeafI). -/
namespace Go.Proofs.Ytlndaflhlkbedaa
open Go.RowKit
set_option linter.unusedVariables false

theorem Tr.lfs_get {xs : Tr} {k : Nat} (hk : k < (Tr.post xs).length) : ∃ i, i < xs.length ∧ Zs.at (Zs.up (Tr.post xs)) k = (i : Int) ∧ Zs.at (Zs.up (Tr.lfs xs)) k = (i : Int) - Tr.d xs i ∧ 0 ≤ Tr.d xs i ∧ Tr.d xs i ≤ 12 := by
  obtain ⟨i, h1, h2, h3, hok, hl⟩ := Tr.post_at hk
  have hi : i < xs.length := by omega
  rw [List.getElem?_eq_getElem hk] at h2
  injection h2 with h2
  have hd := Tr.dn_eq hok hi
  have hd2 := Tr.dn_le hok hi
  refine ⟨i, hi, by rw [Zs.up_at _ _ hk, h2], ?_, (Tr.ok_at hok hi).2.1⟩
  rw [Zs.up_at _ _ (by rw [Tr.lfs_length]; exact hk)]
  simp only [Tr.lfs, List.getElem_map, h2]
  omega
set_option maxHeartbeats 1600000 in
set_option maxRecDepth 100000 in
theorem implLeftLeaf_any (A : Option Addr) (n c : Nat) (xs : Tr) (w : World) (h : NdIn w w.heap.size A n xs) (hn : n ≤ 1048576) (hnc : n ≤ c) :
    Calls Try.prog 145 #[.slice A n c] w (OwnInts 3 (Zs.up (Tr.lfs xs)) w) := by
  have H := Lib.hid h
  clear h
  have HL := Lib.hid H.out.1
  have hml := Tr.post_len_le xs
  rw [H.out.1] at hml
  obtain ⟨m, hm⟩ : ∃ m, m = (Tr.post xs).length := ⟨_, rfl⟩
  have HM := Lib.hid hm
  have HRL := Lib.hid (show (Zs.up (Tr.post xs)).length = m by rw [Zs.up_length, hm])
  have HR := Lib.hid (fun k (hk : k < m) => Tr.lfs_get (xs := xs) (k := k) (by rw [← hm]; exact hk))
  obtain ⟨F, hF⟩ : ∃ F, F = Zs.up (Tr.lfs xs) := ⟨_, rfl⟩
  have HFl := Lib.hid (show F.length = m by rw [hF, Zs.up_length, Tr.lfs_length, hm])
  have HF := Lib.hid hF
  rw [← hm] at hml
  clear hm hF
  obtain ⟨i0, hi, hz0, hz1, hz2⟩ := info_parts info_intZ
  have Hi := Lib.hid hi
  clear hi
  go_enter Try.func145, Try.ntmps145
  go_wp2_with fail
  refine (implPostOrder_any _ _ _ xs _ H.out hn hnc).mono ?_
  rintro e w1 ⟨A1, c1, rfl, ho, hb⟩
  have HB := Lib.hid hb
  have I1 := Lib.hid (IntIn.of_own ho)
  have H1 := Lib.hid (H.out.to_below hb)
  clear ho hb
  rw [HRL.out] at I1 ⊢
  have HZ0 := Lib.hid (show List.replicate m (0 : Int) = Zs.part F 0 by rw [Zs.part_zero, HFl.out])
  go_wp2_with (at_make; go_loud (refine wpList_make_full _ rfl _ _ 25 rfl w1.heap.size 3 i0 (.int .i64 0) 1 Try.underlying25 Hi.out hz0 hz1 _ _ _ _ m rfl rfl rfl rfl (by rw [hz2]; omega) (by unfold maxLen; omega) (Nat.le_refl _) ?_); intro w2 hown2 hgrow2)
  have hb2 : Below w1.heap.size w1 w2 := (Below.refl _ w1).grown hgrow2 (Nat.le_refl _) (fun _ h => by cases h)
  rw [made_zeros 0 m, HZ0.out] at hown2
  have HO2 := Lib.hid hown2
  have HB2 := Lib.hid hb2
  clear hown2 hgrow2 hb2
  go_wp2
  go_loopw [14] (fun kv wr => ∃ k : Nat, k ≤ m ∧ kv = .int .i64 k ∧ wr.ownsRow w1.heap.size 3 1 (.slice (some ⟨w1.heap.size, 0, none⟩) m m) m (ints (Zs.part F k)) ∧ Below w1.heap.size w1 wr) (fun k _ => m - (intOf k).toNat)
  case atStart => exact ⟨0, Nat.zero_le _, rfl, HO2.out, HB2.out⟩
  case round =>
    clear HO2 HB2
    obtain ⟨k, hk, rfl, hown, hB⟩ := hrel
    have Ho := Lib.hid hown
    have HB2 := Lib.hid hB
    clear hown hB
    by_cases hlt : k < m
    · obtain ⟨i, r1, r2, r3, r4, r5⟩ := HR.out k hlt
      rw [← HF.out] at r3
      rw [HL.out] at r1
      obtain ⟨ad, rfl, _, c1⟩ := (I1.out.below HB2.out).at_ hlt
      rw [r2] at c1
      obtain ⟨ad2, rfl, _, l1, d1⟩ := (H1.out.below HB2.out).at_ r1
      have c0 := own_int Ho.out (k := k) (by rw [Zs.part_length F k (by rw [HFl.out]; exact hk), HFl.out]; exact hlt)
      have f0 := Ho.out.frozenAt k
      have b0 : (0 : Int) ≤ (i : Int) := by omega
      have b1 : (i : Int) < (n : Int) := by omega
      have b2 : (0 : Int) ≤ (k : Int) := by omega
      have b3 : (k : Int) < (m : Int) := by omega
      have a1 : IntKind.i64.wrap ((i : Int) - Tr.d xs i) = (i : Int) - Tr.d xs i := Kit.w64 (by omega) (by omega)
      have R3 := Lib.hid r3
      clear r2 r3 r4 r5 l1
      go_wp2
      go_roundw
      case rel =>
        refine ⟨k + 1, by omega, by go_num, ?_, HB2.out.setCell (Nat.le_refl _) _⟩
        have := (Ho.out.stored k (.int .i64 ((i : Int) - Tr.d xs i))).1
        rw [ints_set, ← R3.out, Zs.part_set F k (by rw [HFl.out]; exact hlt), R3.out] at this
        exact this
      case measure => simp [intOf]; omega
    · obtain rfl : k = m := by omega
      have Hf := Lib.hid (show Zs.part F k = F by rw [← HFl.out]; exact Zs.part_all F)
      rw [Hf.out] at Ho
      go_wp2
      go_ret
      exact ⟨_, _, by rw [← HF.out, HFl.out]; rfl, by rw [← HF.out, HFl.out]; exact own_base Ho.out HB.out.size, HB.out.trans (HB2.out.mono HB.out.size)⟩

end Go.Proofs.Ytlndaflhlkbedaa

/- Contracts (SlI). -/
namespace Go.Proofs.Ytlndaflhlkbedaa
open Go.RowKit
set_option linter.unusedVariables false

set_option maxHeartbeats 1600000 in
set_option maxRecDepth 100000 in
theorem slIndex_any (A : Option Addr) (n c : Nat) (zs : List Int) (i : Int) (w : World) (h : IntIn w w.heap.size A n zs) (hn : n ≤ 1048576) :
    Calls Try.prog 148 #[.slice A n c, .int .i64 i] w fun e w' => e = .returned (.int .i64 (Zs.find zs i 0)) ∧ w = w' := by
  have H := Lib.hid h
  have HL := Lib.hid h.1
  clear h
  have HFS := Lib.hid (fun k => Zs.find_step zs i k)
  go_enter Try.func148, Try.ntmps148
  go_wp2
  go_loop [8] (fun kv => ∃ k : Nat, k ≤ n ∧ kv = .int .i64 k ∧ Zs.find zs i 0 = Zs.find (zs.drop k) i k) (fun k => n - (intOf k).toNat)
  case atStart => exact ⟨0, Nat.zero_le _, rfl, rfl⟩
  case round =>
    obtain ⟨k, hk, rfl, hfi⟩ := hrel
    have HI := Lib.hid hfi
    clear hfi
    by_cases hlt : k < n
    · have hfs := HFS.out k (by rw [HL.out]; exact hlt)
      obtain ⟨ad, rfl, _, c1⟩ := H.out.at_ hlt
      have hz : Zs.at zs k = zs.getD k 0 := rfl
      rw [hz] at c1
      obtain ⟨x, hx⟩ : ∃ x, x = zs.getD k 0 := ⟨_, rfl⟩
      rw [← hx] at c1 hfs
      clear hx hz
      have k0 : (0 : Int) ≤ (k : Int) := by omega
      have k1 : (k : Int) < (n : Int) := by omega
      by_cases hq : x = i
      · have q : (i == x) = true := by simpa using hq.symm
        rw [if_pos hq] at hfs
        have Hs := Lib.hid (HI.out.trans hfs)
        clear hq hfs
        go_wp2
        go_ret
        exact ⟨by rw [Hs.out]; rfl, rfl⟩
      · have q : (i == x) = false := by simpa using fun e => hq e.symm
        rw [if_neg hq] at hfs
        have Hs := Lib.hid (HI.out.trans hfs)
        clear hq hfs
        go_wp2
        go_round
        case rel => exact ⟨k + 1, by omega, by go_num, Hs.out⟩
        case measure => simp [intOf]; omega
    · obtain rfl : k = n := by omega
      have Hs := Lib.hid (show Zs.find zs i 0 = -1 by rw [HI.out, List.drop_eq_nil_of_le (by rw [HL.out]; exact Nat.le_refl _)]; rfl)
      go_wp2
      go_ret
      exact ⟨by rw [Hs.out]; rfl, rfl⟩

end Go.Proofs.Ytlndaflhlkbedaa

/- Contracts (SlC). -/
namespace Go.Proofs.Ytlndaflhlkbedaa
open Go.RowKit
set_option linter.unusedVariables false

theorem Zs.find_ge (zs : List Int) (i : Int) (k : Nat) : Zs.find zs i k = -1 ∨ (k : Int) ≤ Zs.find zs i k := by
  induction zs generalizing k with
  | nil => exact .inl rfl
  | cons z zs ih =>
    unfold Zs.find
    by_cases h : z = i
    · rw [if_pos h]; exact .inr (Int.le_refl _)
    · rw [if_neg h]
      rcases ih (k + 1) with h | h
      · exact .inl h
      · exact .inr (by omega)
theorem Zs.find_mem (zs : List Int) (i : Int) (k : Nat) : 0 ≤ Zs.find zs i k ↔ i ∈ zs := by
  induction zs generalizing k with
  | nil => simp [Zs.find]
  | cons z zs ih =>
    unfold Zs.find
    by_cases h : z = i
    · rw [if_pos h]; subst h; simp
    · rw [if_neg h, ih (k + 1)]
      simp [show ¬ i = z from fun e => h e.symm]
set_option maxHeartbeats 1600000 in
set_option maxRecDepth 100000 in
theorem slContains_any (A : Option Addr) (n c : Nat) (zs : List Int) (i : Int) (w : World) (h : IntIn w w.heap.size A n zs) (hn : n ≤ 1048576) :
    Calls Try.prog 147 #[.slice A n c, .int .i64 i] w fun e w' => e = .returned (.bool (decide (i ∈ zs))) ∧ w = w' := by
  have H := Lib.hid h
  clear h
  have hm := Zs.find_mem zs i 0
  obtain ⟨z, hz⟩ : ∃ z, z = Zs.find zs i 0 := ⟨_, rfl⟩
  have HZ := Lib.hid hz
  rw [← hz] at hm
  have HM := Lib.hid (show decide (0 ≤ z) = decide (i ∈ zs) by rw [Bool.eq_iff_iff]; simp [hm])
  clear hm hz
  go_enter Try.func147, Try.ntmps147
  go_wp2_with fail
  refine (slIndex_any _ _ _ zs _ _ H.out hn).mono ?_
  rintro e w1 ⟨rfl, rfl⟩
  rw [← HZ.out]
  go_wp2
  go_ret
  exact ⟨by rw [← HM.out]; rfl, rfl⟩

end Go.Proofs.Ytlndaflhlkbedaa

/- Contracts (KeyI). -/
namespace Go.Proofs.Ytlndaflhlkbedaa
open Go.RowKit
set_option linter.unusedVariables false

theorem IntIn.cut {w : World} {B n : Nat} {ad : Addr} {zs : List Int} (h : IntIn w B (some ad) n zs) {j m : Nat} (hjm : j + m = n) : IntIn w B (some (ad.add j)) m (zs.drop j) := by
  refine ⟨by have := h.1; simp; omega, fun hm => ⟨_, rfl, ?_⟩, fun ad' e k hk => ?_⟩
  · rw [block_of_add]
    obtain ⟨ad', e, hb⟩ := h.2.1 (by omega)
    obtain rfl : ad = ad' := by injection e
    exact hb
  · obtain rfl : ad.add j = ad' := by injection e
    have hc := h.2.2 ad rfl (j + k) (by omega)
    rw [add_of_add]
    simpa [Zs.at, List.getD_eq_getElem?_getD] using hc
theorem IntIn.none {w : World} {B : Nat} {A : Option Addr} : IntIn w B A 0 [] := ⟨rfl, fun h => absurd h (Nat.lt_irrefl 0), fun ad _ k hk => absurd hk (Nat.not_lt_zero k)⟩
theorem Zs.last_in (F : List Nat) (k : Nat) (hk : k < F.length) : Zs.lastTo F k F.length = !decide (Zs.at (Zs.up F) k ∈ (Zs.up F).drop (k + 1)) := by
  rw [Bool.eq_iff_iff]
  simp only [Zs.lastTo, List.all_eq_true, List.mem_range, Bool.or_eq_true, decide_eq_true_eq, Bool.not_eq_true', decide_eq_false_iff_not]
  rw [Zs.up_at F k hk]
  have hgk : F.getD k 0 = F[k] := by simp [List.getD_eq_getElem?_getD, hk]
  constructor
  · intro h hm
    obtain ⟨j, hj, e⟩ := List.getElem_of_mem hm
    simp [Zs.up] at hj e
    have := h (k + 1 + j) (by omega)
    rw [hgk] at this
    simp [List.getD_eq_getElem?_getD, show k + 1 + j < F.length by omega] at this
    omega
  · intro h j hj
    by_cases q : j ≤ k
    · exact .inl q
    · refine .inr fun e => h ?_
      rw [hgk] at e
      have e2 : F.getD j 0 = F[j] := by simp [List.getD_eq_getElem?_getD, hj]
      rw [List.mem_iff_getElem]
      exact ⟨j - (k + 1), by simp [Zs.up]; omega, by simp [Zs.up, show k + 1 + (j - (k + 1)) = j by omega]; omega⟩
set_option maxHeartbeats 1600000 in
set_option maxRecDepth 100000 in
theorem implKeyRoots_any (A : Option Addr) (n c : Nat) (xs : Tr) (w : World) (h : NdIn w w.heap.size A n xs) (hn : n ≤ 1048576) (hnc : n ≤ c) :
    Calls Try.prog 146 #[.slice A n c] w (OwnInts 3 (Zs.up (Tr.krs xs)) w) := by
  have H := Lib.hid h
  clear h
  have hml := Tr.post_len_le xs
  rw [H.out.1, ← Tr.lfs_length] at hml
  obtain ⟨G, hG⟩ : ∃ G, G = Tr.lfs xs := ⟨_, rfl⟩
  have HS := Lib.hid (fun k => Tr.krTo_succ xs k)
  have HLe := Lib.hid (fun k => Tr.krTo_le xs k)
  have HK := Lib.hid (show Tr.krs xs = Tr.krTo xs G.length by rw [hG]; rfl)
  rw [← hG] at hml HS
  have HIN := Lib.hid (fun k hk => Zs.last_in G k hk)
  obtain ⟨m, hm⟩ : ∃ m, m = G.length := ⟨_, rfl⟩
  obtain ⟨F, hF⟩ : ∃ F, F = Zs.up G := ⟨_, rfl⟩
  have HFl := Lib.hid (show F.length = m by rw [hF, Zs.up_length, hm])
  have HF := Lib.hid (show Zs.up (Tr.lfs xs) = F by rw [hF, hG])
  rw [← hm] at hml HS HK HIN
  rw [← hF] at HIN
  clear hm hF hG
  obtain ⟨i0, hi, hz0, hz1, hz2⟩ := info_parts info_intZ
  have Hi := Lib.hid hi
  clear hi
  go_enter Try.func146, Try.ntmps146
  go_wp2_with fail
  refine (implLeftLeaf_any _ _ _ xs _ H.out hn hnc).mono ?_
  rintro e w1 ⟨A1, c1, rfl, ho, hb⟩
  have HB := Lib.hid hb
  rw [HF.out, HFl.out] at ho ⊢
  have I1 := Lib.hid (IntIn.of_own ho)
  have hmc := own_cap ho
  clear ho hb
  go_wp2
  go_loopw [11, 4] (fun kv ov wr => ∃ k : Nat, k ≤ m ∧ kv = .int .i64 k ∧ wr.ownsRow w1.heap.size 3 1 ov (Zs.up (Tr.krTo xs k)).length (ints (Zs.up (Tr.krTo xs k))) ∧ Below w1.heap.size w1 wr) (fun k _ _ => m - (intOf k).toNat)
  case atStart => exact ⟨0, Nat.zero_le _, rfl, own_nil, Below.refl _ _⟩
  case round =>
    obtain ⟨k, hk, rfl, hown, hB⟩ := hrel
    have Ho := Lib.hid hown
    have HB2 := Lib.hid hB
    clear hown hB
    have hsx := HB2.out.size
    by_cases hlt : k < m
    · have hin := HIN.out k hlt
      have hs := HS.out k
      rw [hin] at hs
      have hle := HLe.out k
      obtain ⟨ad, rfl, _, c0⟩ := (I1.out.below HB2.out).at_ hlt
      obtain ⟨x, hx⟩ : ∃ x, x = Zs.at F k := ⟨_, rfl⟩
      rw [← hx] at hs c0
      have b2 : (0 : Int) ≤ (k : Int) := by omega
      have b3 : (k : Int) < (m : Int) := by omega
      have b4 : (k : Int) + 1 ≤ (m : Int) := by omega
      have b5 : (m : Int) ≤ (c1 : Int) := by omega
      have b6 : (0 : Int) ≤ (k : Int) + 1 := by omega
      have b7 : ((k : Int) + 1).toNat = k + 1 := by omega
      have a1 : IntKind.i64.wrap ((k : Int) + 1) = (k : Int) + 1 := Kit.w64 (by omega) (by omega)
      have IC := Lib.hid (((I1.out.to_below HB2.out)).cut (j := k + 1) (m := m - (k + 1)) (by omega))
      have hmk : m - (k + 1) ≤ 1048576 := by omega
      clear hin hx
      cases hd : decide (x ∈ F.drop (k + 1)) with
      | true =>
        rw [hd] at hs
        have Hs := Lib.hid (hs.trans (if_neg (by decide)))
        have Hd := Lib.hid hd
        clear hs hd
        by_cases hc : c1 = k + 1
        · have I0 := Lib.hid (show IntIn wr wr.heap.size (some ad) 0 (F.drop (k + 1)) by
            rw [List.drop_eq_nil_of_le (by rw [HFl.out]; omega)]; exact IntIn.none)
          have hc2 : k + 1 = c1 := hc.symm
          clear hc hmk
          go_wp2_with fail
          refine (slContains_any _ _ _ (F.drop (k + 1)) x _ I0.out (Nat.zero_le _)).mono ?_
          rintro e w3 ⟨rfl, rfl⟩
          rw [Hd.out]
          go_wp2
          go_roundw
          case rel => exact ⟨k + 1, by omega, by go_num, by rw [Hs.out]; exact Ho.out, HB2.out⟩
          case measure => simp [intOf]; omega
        · go_wp2_with fail
          refine (slContains_any _ _ _ (F.drop (k + 1)) x _ IC.out hmk).mono ?_
          rintro e w3 ⟨rfl, rfl⟩
          rw [Hd.out]
          go_wp2
          go_roundw
          case rel => exact ⟨k + 1, by omega, by go_num, by rw [Hs.out]; exact Ho.out, HB2.out⟩
          case measure => simp [intOf]; omega
      | false =>
        rw [hd] at hs
        have Hs := Lib.hid (hs.trans (if_pos rfl))
        have Hd := Lib.hid hd
        clear hs hd
        by_cases hc : c1 = k + 1
        · have I0 := Lib.hid (show IntIn wr wr.heap.size (some ad) 0 (F.drop (k + 1)) by
            rw [List.drop_eq_nil_of_le (by rw [HFl.out]; omega)]; exact IntIn.none)
          have hc2 : k + 1 = c1 := hc.symm
          clear hc hmk
          go_wp2_with fail
          refine (slContains_any _ _ _ (F.drop (k + 1)) x _ I0.out (Nat.zero_le _)).mono ?_
          rintro e w3 ⟨rfl, rfl⟩
          rw [Hd.out]
          go_wp2_with (at_builtin; go_loud (refine append_int wr rfl _ _ 25 rfl w1.heap.size 3 i0 Try.underlying25 Hi.out hz0 hz1 hz2 u4 (Zs.up (Tr.krTo xs k)).length (Zs.up (Tr.krTo xs k)) rfl Ho.out rfl (k : Int) rfl (by rw [Zs.up_length]; omega) hsx ?_); intro v' w3 hown hgrow)
          have hb3 := Kit.below_own HB2.out Ho.out hgrow
          rw [show Zs.up (Tr.krTo xs k) ++ [(k : Int)] = Zs.up (Tr.krTo xs (k + 1)) by rw [Hs.out, Zs.up_append]; rfl] at hown
          go_roundw
          case rel => exact ⟨k + 1, by omega, by go_num, hown, hb3⟩
          case measure => simp [intOf]; omega
        · go_wp2_with fail
          refine (slContains_any _ _ _ (F.drop (k + 1)) x _ IC.out hmk).mono ?_
          rintro e w3 ⟨rfl, rfl⟩
          rw [Hd.out]
          go_wp2_with (at_builtin; go_loud (refine append_int wr rfl _ _ 25 rfl w1.heap.size 3 i0 Try.underlying25 Hi.out hz0 hz1 hz2 u4 (Zs.up (Tr.krTo xs k)).length (Zs.up (Tr.krTo xs k)) rfl Ho.out rfl (k : Int) rfl (by rw [Zs.up_length]; omega) hsx ?_); intro v' w3 hown hgrow)
          have hb3 := Kit.below_own HB2.out Ho.out hgrow
          rw [show Zs.up (Tr.krTo xs k) ++ [(k : Int)] = Zs.up (Tr.krTo xs (k + 1)) by rw [Hs.out, Zs.up_append]; rfl] at hown
          go_roundw
          case rel => exact ⟨k + 1, by omega, by go_num, hown, hb3⟩
          case measure => simp [intOf]; omega
    · obtain rfl : k = m := by omega
      go_wp2
      obtain ⟨A2, c2, rfl⟩ := own_slice Ho.out
      go_ret
      exact ⟨A2, c2, by rw [HK.out]; rfl, by rw [HK.out]; exact own_base Ho.out HB.out.size, HB.out.trans (HB2.out.mono HB.out.size)⟩

end Go.Proofs.Ytlndaflhlkbedaa

/- Contracts (StepA). -/
namespace Go.Proofs.Ytlndaflhlkbedaa
open Go.RowKit
set_option linter.unusedVariables false

/-- out = append(out, x...) as one step of a region that draws: a row of ints of the call's own, another that reads as ints -/
theorem step_append_ints {P : Program} {ops : Array Oper} {o : Oper} {a : Act} (w : World) {K : Act → World → Prop} {Q : Exit → Act → World → Prop} {E : Prop} (hgd : o.guard = none) (s x : Operand) (t : TypeId)
    (ho : o.op = .call { callee := .builtin .append, args := #[s, x], argTypes := #[t, t] })
    (base : Nat) (e : TypeId) (i : TypeInfo) (ht : P.underlying t = some (.slice e)) (hi : P.info? e = some i) (hz : i.zero = some (.int .i64 0))
    (hsize : i.size = 1) (hby : i.bytes = 8) (v : Value) (n m N : Nat) (l zs : List Int) (hs : a.eval s = v) (hown : w.ownsRow base e 1 v n (ints l))
    {B : Nat} (A : Option Addr) (c : Nat) (hx : a.eval x = .slice A m c) (hin : IntIn w B A m zs) (hpos : 0 < m) (hN : n + m = N)
    (h63 : N ≤ 1073741824) (hbase : base ≤ w.heap.size)
    (h : ∀ v' w', w'.ownsRow base e 1 v' N (ints (l ++ zs)) → w.grownBy w' v.ownBlock → K (a.put o.dst v') w') :
    if Region.wanted o (yielded ops a.tmps) = true then Oper.wp P o a w K Q else E := by
  have hw : Region.wanted o (yielded ops a.tmps) = true := by simp [Region.wanted, hgd]
  rw [if_pos hw]
  subst hN
  obtain ⟨ad, rfl, _⟩ := hin.2.1 hpos
  refine wp_append_own _ s x t ho base e i (.int .i64 0) 1 8 ht hi hz hsize hby rfl (by decide) v n (ints l) hs hown ad m c (ints zs) hx (by rw [ints_length, hin.1, Nat.mul_one]) hin.cells_at (ints_cell _) (by unfold maxLen; omega) (by omega) hbase ?_
  intro v' w' h2 h3 _
  refine h v' w' ?_ h3
  rw [ints_append]
  exact h2
/-- a write into a row of one's own leaves what lies below the base -/
theorem below_of_own {w w' : World} {base n size : Nat} {e : TypeId} {v : Value} {ys : List Value} (h : w.ownsRow base e size v n ys) (hg : w.grownBy w' v.ownBlock) (hb : base ≤ w.heap.size) : Below base w w' :=
  (Below.refl _ w).grown hg hb (fun k hk => (h.lt k hk).1)

end Go.Proofs.Ytlndaflhlkbedaa

/- Contracts (Three). -/
namespace Go.Proofs.Ytlndaflhlkbedaa
open Go.RowKit
set_option linter.unusedVariables false

theorem Apart.symm {a b : Value} (h : Apart a b) : Apart b a := by
  rcases hb : b.ownBlock with _ | g
  · exact .inl hb
  · refine .inr fun e => ?_
    rcases h with h | h
    · rw [hb, h] at e; cases e
    · exact h e.symm
/-- a struct of three rows of ints that a call builds: in block g; the rows behind it, apart from one another -/
def ThreeAt (w0 : World) (g n0 n1 n2 : Nat) (L0 L1 L2 : List Int) (v0 v1 v2 : Value) (w : World) : Prop :=
  Box3 w g v0 v1 v2 ∧ (∀ off, w.frozen? ⟨g, off, none⟩ = false) ∧ w.ownsRow (g + 1) 3 1 v0 n0 (ints L0) ∧ w.ownsRow (g + 1) 3 1 v1 n1 (ints L1) ∧ w.ownsRow (g + 1) 3 1 v2 n2 (ints L2) ∧
  Apart v0 v1 ∧ Apart v0 v2 ∧ Apart v1 v2 ∧ Below w0.heap.size w0 w ∧ g < w.heap.size
theorem Three.push0 {w0 w w' : World} {g : Nat} {n0 n1 n2 n' : Nat} {L0 L1 L2 L' : List Int} {v0 v1 v2 v' : Value} {o : Obj} (hg : w0.heap.size ≤ g) (h : ThreeAt w0 g n0 n1 n2 L0 L1 L2 v0 v1 v2 w)
    (hown : w'.ownsRow (g + 1) 3 1 v' n' (ints L')) (hgrow : (w.alloc o).grownBy w' v0.ownBlock) (hw : v'.ownBlock = v0.ownBlock ∨ v'.ownBlock = some (w.heap.size + 1)) :
    ThreeAt w0 g n' n1 n2 L' L1 L2 v' v1 v2 (w'.setCell ⟨g, 0, none⟩ v') := by
  obtain ⟨hb, hf, o0, o1, o2, a01, a02, a12, hB, hgl⟩ := h
  have hsz : (w.alloc o).heap.size = w.heap.size + 1 := by simp
  have hgw : g < w'.heap.size := by have := hgrow.size; omega
  have hw' : v'.ownBlock = v0.ownBlock ∨ v'.ownBlock = some (w.alloc o).heap.size := by rw [hsz]; exact hw
  have hc : ∀ off, w'.cell? ⟨g, off, none⟩ = w.cell? ⟨g, off, none⟩ := fun off => by
    rw [World.cell?_of_block (hgrow.block g (by omega) (fun e => by have := (o0.lt g e.symm).1; omega))]
    exact World.cell?_alloc_lt w o ⟨g, off, none⟩ hgl
  have hfz : ∀ off, w'.frozen? ⟨g, off, none⟩ = w.frozen? ⟨g, off, none⟩ := fun off => by
    have e := hgrow.block g (by omega) (fun e => by have := (o0.lt g e.symm).1; omega)
    have e2 : (w.alloc o).heap[g]? = w.heap[g]? := Below.heap_alloc w o g hgl
    unfold World.frozen?
    simp only [e, e2]
  have hgs := Kit.grown_set w' g 0 v'
  have keep : ∀ {v : Value} {n : Nat} {ys : List Value}, w'.ownsRow (g + 1) 3 1 v n ys → (w'.setCell ⟨g, 0, none⟩ v').ownsRow (g + 1) 3 1 v n ys := fun k => own_grown k hgs (fun b hb => by injection hb with hb; omega)
  have hB' : Below w0.heap.size w0 w' := (hB.alloc hB.size o).grown hgrow (by have := hB.size; omega) (fun b hb => by have := (o0.lt b hb).1; omega)
  refine ⟨?_, fun off => ?_, ?_, ?_, ?_, (a01.symm.grew (o1.alloc o) hw').symm, (a02.symm.grew (o2.alloc o) hw').symm, a12, hB'.setCell (by exact hg) _, by simpa using hgw⟩
  · obtain ⟨b0, b1, b2⟩ := hb
    rw [← hc 0] at b0
    rw [← hc 1] at b1
    rw [← hc 2] at b2
    refine ⟨?_, ?_, ?_⟩
    · exact World.cell?_setCell_same' _ _ _ (by rw [b0]; rfl)
    · rw [World.cell?_setCell_other _ _ _ _ (fun e => by injection e with e1 e2; omega)]; exact b1
    · rw [World.cell?_setCell_other _ _ _ _ (fun e => by injection e with e1 e2; omega)]; exact b2
  · rw [World.frozen?_setCell, hfz]; exact hf off
  · exact keep hown
  · exact keep (World.ownsRow.kept (o1.alloc o) hgrow a01.symm)
  · exact keep (World.ownsRow.kept (o2.alloc o) hgrow a02.symm)
theorem Three.push1 {w0 w w' : World} {g : Nat} {n0 n1 n2 n' : Nat} {L0 L1 L2 L' : List Int} {v0 v1 v2 v' : Value} {o : Obj} (hg : w0.heap.size ≤ g) (h : ThreeAt w0 g n0 n1 n2 L0 L1 L2 v0 v1 v2 w)
    (hown : w'.ownsRow (g + 1) 3 1 v' n' (ints L')) (hgrow : (w.alloc o).grownBy w' v1.ownBlock) (hw : v'.ownBlock = v1.ownBlock ∨ v'.ownBlock = some (w.heap.size + 1)) :
    ThreeAt w0 g n0 n' n2 L0 L' L2 v0 v' v2 (w'.setCell ⟨g, 1, none⟩ v') := by
  obtain ⟨hb, hf, o0, o1, o2, a01, a02, a12, hB, hgl⟩ := h
  have hsz : (w.alloc o).heap.size = w.heap.size + 1 := by simp
  have hgw : g < w'.heap.size := by have := hgrow.size; omega
  have hw' : v'.ownBlock = v1.ownBlock ∨ v'.ownBlock = some (w.alloc o).heap.size := by rw [hsz]; exact hw
  have hc : ∀ off, w'.cell? ⟨g, off, none⟩ = w.cell? ⟨g, off, none⟩ := fun off => by
    rw [World.cell?_of_block (hgrow.block g (by omega) (fun e => by have := (o1.lt g e.symm).1; omega))]
    exact World.cell?_alloc_lt w o ⟨g, off, none⟩ hgl
  have hfz : ∀ off, w'.frozen? ⟨g, off, none⟩ = w.frozen? ⟨g, off, none⟩ := fun off => by
    have e := hgrow.block g (by omega) (fun e => by have := (o1.lt g e.symm).1; omega)
    have e2 : (w.alloc o).heap[g]? = w.heap[g]? := Below.heap_alloc w o g hgl
    unfold World.frozen?
    simp only [e, e2]
  have hgs := Kit.grown_set w' g 1 v'
  have keep : ∀ {v : Value} {n : Nat} {ys : List Value}, w'.ownsRow (g + 1) 3 1 v n ys → (w'.setCell ⟨g, 1, none⟩ v').ownsRow (g + 1) 3 1 v n ys := fun k => own_grown k hgs (fun b hb => by injection hb with hb; omega)
  have hB' : Below w0.heap.size w0 w' := (hB.alloc hB.size o).grown hgrow (by have := hB.size; omega) (fun b hb => by have := (o1.lt b hb).1; omega)
  refine ⟨?_, fun off => ?_, ?_, ?_, ?_, a01.grew (o0.alloc o) hw', a02, (a12.symm.grew (o2.alloc o) hw').symm, hB'.setCell (by exact hg) _, by simpa using hgw⟩
  · obtain ⟨b0, b1, b2⟩ := hb
    rw [← hc 0] at b0
    rw [← hc 1] at b1
    rw [← hc 2] at b2
    refine ⟨?_, ?_, ?_⟩
    · rw [World.cell?_setCell_other _ _ _ _ (fun e => by injection e with e1 e2; omega)]; exact b0
    · exact World.cell?_setCell_same' _ _ _ (by rw [b1]; rfl)
    · rw [World.cell?_setCell_other _ _ _ _ (fun e => by injection e with e1 e2; omega)]; exact b2
  · rw [World.frozen?_setCell, hfz]; exact hf off
  · exact keep (World.ownsRow.kept (o0.alloc o) hgrow a01)
  · exact keep hown
  · exact keep (World.ownsRow.kept (o2.alloc o) hgrow a12.symm)
theorem Three.push2 {w0 w w' : World} {g : Nat} {n0 n1 n2 n' : Nat} {L0 L1 L2 L' : List Int} {v0 v1 v2 v' : Value} {o : Obj} (hg : w0.heap.size ≤ g) (h : ThreeAt w0 g n0 n1 n2 L0 L1 L2 v0 v1 v2 w)
    (hown : w'.ownsRow (g + 1) 3 1 v' n' (ints L')) (hgrow : (w.alloc o).grownBy w' v2.ownBlock) (hw : v'.ownBlock = v2.ownBlock ∨ v'.ownBlock = some (w.heap.size + 1)) :
    ThreeAt w0 g n0 n1 n' L0 L1 L' v0 v1 v' (w'.setCell ⟨g, 2, none⟩ v') := by
  obtain ⟨hb, hf, o0, o1, o2, a01, a02, a12, hB, hgl⟩ := h
  have hsz : (w.alloc o).heap.size = w.heap.size + 1 := by simp
  have hgw : g < w'.heap.size := by have := hgrow.size; omega
  have hw' : v'.ownBlock = v2.ownBlock ∨ v'.ownBlock = some (w.alloc o).heap.size := by rw [hsz]; exact hw
  have hc : ∀ off, w'.cell? ⟨g, off, none⟩ = w.cell? ⟨g, off, none⟩ := fun off => by
    rw [World.cell?_of_block (hgrow.block g (by omega) (fun e => by have := (o2.lt g e.symm).1; omega))]
    exact World.cell?_alloc_lt w o ⟨g, off, none⟩ hgl
  have hfz : ∀ off, w'.frozen? ⟨g, off, none⟩ = w.frozen? ⟨g, off, none⟩ := fun off => by
    have e := hgrow.block g (by omega) (fun e => by have := (o2.lt g e.symm).1; omega)
    have e2 : (w.alloc o).heap[g]? = w.heap[g]? := Below.heap_alloc w o g hgl
    unfold World.frozen?
    simp only [e, e2]
  have hgs := Kit.grown_set w' g 2 v'
  have keep : ∀ {v : Value} {n : Nat} {ys : List Value}, w'.ownsRow (g + 1) 3 1 v n ys → (w'.setCell ⟨g, 2, none⟩ v').ownsRow (g + 1) 3 1 v n ys := fun k => own_grown k hgs (fun b hb => by injection hb with hb; omega)
  have hB' : Below w0.heap.size w0 w' := (hB.alloc hB.size o).grown hgrow (by have := hB.size; omega) (fun b hb => by have := (o2.lt b hb).1; omega)
  refine ⟨?_, fun off => ?_, ?_, ?_, ?_, a01, a02.grew (o0.alloc o) hw', a12.grew (o1.alloc o) hw', hB'.setCell (by exact hg) _, by simpa using hgw⟩
  · obtain ⟨b0, b1, b2⟩ := hb
    rw [← hc 0] at b0
    rw [← hc 1] at b1
    rw [← hc 2] at b2
    refine ⟨?_, ?_, ?_⟩
    · rw [World.cell?_setCell_other _ _ _ _ (fun e => by injection e with e1 e2; omega)]; exact b0
    · rw [World.cell?_setCell_other _ _ _ _ (fun e => by injection e with e1 e2; omega)]; exact b1
    · exact World.cell?_setCell_same' _ _ _ (by rw [b2]; rfl)
  · rw [World.frozen?_setCell, hfz]; exact hf off
  · exact keep (World.ownsRow.kept (o0.alloc o) hgrow a02)
  · exact keep (World.ownsRow.kept (o1.alloc o) hgrow a12)
  · exact keep hown
theorem Three.mid0 {w0 w w' : World} {g : Nat} {n0 n1 n2 : Nat} {L0 L1 L2 : List Int} {v0 v1 v2 : Value} {o : Obj} (h : ThreeAt w0 g n0 n1 n2 L0 L1 L2 v0 v1 v2 w) (hgrow : (w.alloc o).grownBy w' v0.ownBlock) :
    (∀ off, w'.cell? ⟨g, off, none⟩ = w.cell? ⟨g, off, none⟩) ∧ ∀ off, w'.frozen? ⟨g, off, none⟩ = false := by
  obtain ⟨hb, hf, o0, o1, o2, a01, a02, a12, hB, hgl⟩ := h
  have hsz : (w.alloc o).heap.size = w.heap.size + 1 := by simp
  have e := hgrow.block g (by omega) (fun e => by have := (o0.lt g e.symm).1; omega)
  refine ⟨fun off => ?_, fun off => ?_⟩
  · rw [World.cell?_of_block e]
    exact World.cell?_alloc_lt w o ⟨g, off, none⟩ hgl
  · have e2 : (w.alloc o).heap[g]? = w.heap[g]? := Below.heap_alloc w o g hgl
    have := hf off
    unfold World.frozen? at this ⊢
    simp only [e, e2]
    exact this
theorem Three.mid1 {w0 w w' : World} {g : Nat} {n0 n1 n2 : Nat} {L0 L1 L2 : List Int} {v0 v1 v2 : Value} {o : Obj} (h : ThreeAt w0 g n0 n1 n2 L0 L1 L2 v0 v1 v2 w) (hgrow : (w.alloc o).grownBy w' v1.ownBlock) :
    (∀ off, w'.cell? ⟨g, off, none⟩ = w.cell? ⟨g, off, none⟩) ∧ ∀ off, w'.frozen? ⟨g, off, none⟩ = false := by
  obtain ⟨hb, hf, o0, o1, o2, a01, a02, a12, hB, hgl⟩ := h
  have hsz : (w.alloc o).heap.size = w.heap.size + 1 := by simp
  have e := hgrow.block g (by omega) (fun e => by have := (o1.lt g e.symm).1; omega)
  refine ⟨fun off => ?_, fun off => ?_⟩
  · rw [World.cell?_of_block e]
    exact World.cell?_alloc_lt w o ⟨g, off, none⟩ hgl
  · have e2 : (w.alloc o).heap[g]? = w.heap[g]? := Below.heap_alloc w o g hgl
    have := hf off
    unfold World.frozen? at this ⊢
    simp only [e, e2]
    exact this
theorem Three.mid2 {w0 w w' : World} {g : Nat} {n0 n1 n2 : Nat} {L0 L1 L2 : List Int} {v0 v1 v2 : Value} {o : Obj} (h : ThreeAt w0 g n0 n1 n2 L0 L1 L2 v0 v1 v2 w) (hgrow : (w.alloc o).grownBy w' v2.ownBlock) :
    (∀ off, w'.cell? ⟨g, off, none⟩ = w.cell? ⟨g, off, none⟩) ∧ ∀ off, w'.frozen? ⟨g, off, none⟩ = false := by
  obtain ⟨hb, hf, o0, o1, o2, a01, a02, a12, hB, hgl⟩ := h
  have hsz : (w.alloc o).heap.size = w.heap.size + 1 := by simp
  have e := hgrow.block g (by omega) (fun e => by have := (o2.lt g e.symm).1; omega)
  refine ⟨fun off => ?_, fun off => ?_⟩
  · rw [World.cell?_of_block e]
    exact World.cell?_alloc_lt w o ⟨g, off, none⟩ hgl
  · have e2 : (w.alloc o).heap[g]? = w.heap[g]? := Below.heap_alloc w o g hgl
    have := hf off
    unfold World.frozen? at this ⊢
    simp only [e, e2]
    exact this
/-- the struct as it is made: three empty rows -/
theorem Three.new (w0 : World) (e : TypeId) : ThreeAt w0 w0.heap.size 0 0 0 [] [] [] (.slice none 0 0) (.slice none 0 0) (.slice none 0 0) (w0.alloc (.cells #[.slice none 0 0, .slice none 0 0, .slice none 0 0] e)) :=
  ⟨Box3.made _ _ _ _ _, Box3.free _ _ _ _ _, own_nil, own_nil, own_nil, .inl rfl, .inl rfl, .inl rfl, (Below.refl _ _).alloc (Nat.le_refl _) _, by simp⟩
/-- its three rows, as they lie behind a store of it into another struct -/
theorem Three.out {w0 w : World} {g n0 n1 n2 s : Nat} {L0 L1 L2 : List Int} {v0 v1 v2 u0 u1 u2 : Value} (h : ThreeAt w0 g n0 n1 n2 L0 L1 L2 v0 v1 v2 w) (hs : s ≤ g) {base : Nat} (hb : base ≤ g) :
    let W := ((w.setCell ⟨s, 0, none⟩ u0).setCell ⟨s, 1, none⟩ u1).setCell ⟨s, 2, none⟩ u2
    W.ownsRow base 3 1 v0 n0 (ints L0) ∧ W.ownsRow base 3 1 v1 n1 (ints L1) ∧ W.ownsRow base 3 1 v2 n2 (ints L2) ∧ Apart v0 v1 ∧ Apart v0 v2 ∧ Apart v1 v2 := by
  obtain ⟨hx, hf, o0, o1, o2, a01, a02, a12, hB, hgl⟩ := h
  have keep : ∀ (v : Value) (n : Nat) (ys : List Value), w.ownsRow (g + 1) 3 1 v n ys → (((w.setCell ⟨s, 0, none⟩ u0).setCell ⟨s, 1, none⟩ u1).setCell ⟨s, 2, none⟩ u2).ownsRow base 3 1 v n ys := fun _ _ _ k =>
    own_base (own_grown (own_grown (own_grown k (Kit.grown_set _ _ _ _) (fun b hb => by injection hb with hb; omega)) (Kit.grown_set _ _ _ _) (fun b hb => by injection hb with hb; omega)) (Kit.grown_set _ _ _ _) (fun b hb => by injection hb with hb; omega)) (by omega)
  exact ⟨keep _ _ _ o0, keep _ _ _ o1, keep _ _ _ o2, a01, a02, a12⟩

end Go.Proofs.Ytlndaflhlkbedaa

/- Contracts (UnitS). -/
namespace Go.Proofs.Ytlndaflhlkbedaa
open Go.RowKit
set_option linter.unusedVariables false

def Co.urel (j : Nat) : List Int := (List.range j).map fun p => if p / 6 = p % 6 then 0 else 1
def Co.unit : Co := ⟨List.replicate 6 1, List.replicate 6 1, Co.urel 36⟩
theorem Co.urel_succ (j : Nat) : Co.urel (j + 1) = Co.urel j ++ [if j / 6 = j % 6 then 0 else 1] := by simp [Co.urel, List.range_succ]
theorem Co.urel_length (j : Nat) : (Co.urel j).length = j := by simp [Co.urel]
/-- the answer is a cost of the call's own: three rows apart -/
def OwnCo (k : Co) (w : World) (e : Ending) (w' : World) : Prop :=
  ∃ A0 A1 A2 c0 c1 c2, e = .returned (.agg #[.slice A0 k.d.length c0, .slice A1 k.i.length c1, .slice A2 k.r.length c2]) ∧
    w'.ownsRow w.heap.size 3 1 (.slice A0 k.d.length c0) k.d.length (ints k.d) ∧ w'.ownsRow w.heap.size 3 1 (.slice A1 k.i.length c1) k.i.length (ints k.i) ∧ w'.ownsRow w.heap.size 3 1 (.slice A2 k.r.length c2) k.r.length (ints k.r) ∧
    Apart (.slice A0 k.d.length c0) (.slice A1 k.i.length c1) ∧ Apart (.slice A0 k.d.length c0) (.slice A2 k.r.length c2) ∧ Apart (.slice A1 k.i.length c1) (.slice A2 k.r.length c2) ∧ Below w.heap.size w w'
theorem results_cell1 {fn : Func} {p : Tmp} {ty : TypeId} (h : fn.results = #[.cell p ty]) (tmps : Array Value) (P : Program) (w : World) :
    (results fn tmps).run P w = ((asAddr (tmps.getD p undef)).run P w).andThen fun a w₁ => (loadVar ty a).run P w₁ := by
  simp only [results, h]
  simp [Sem.run_bind]
theorem info_intU : (Try.prog.info? 3).map (fun i => (i.zero, i.size, i.bytes)) = some (some (.int .i64 0), 1, 8) := by kernel_rfl
set_option maxHeartbeats 1600000 in
set_option maxRecDepth 100000 in
theorem specUnitCost_any (w : World) : Calls Try.prog 139 #[] w (OwnCo Co.unit w) := by
  obtain ⟨i0, hi, hz0, hz1, hz2⟩ := info_parts info_intU
  have Hi := Lib.hid hi
  clear hi
  obtain ⟨g, hg⟩ : ∃ g, g = w.heap.size + 1 := ⟨_, rfl⟩
  obtain ⟨wz, hwz⟩ : ∃ wz, wz = w.alloc (.cells #[.slice none 0 0, .slice none 0 0, .slice none 0 0] 27) := ⟨_, rfl⟩
  have hzs : wz.heap.size = g := by rw [hwz, hg]; simp
  have HBZ := Lib.hid (show Below w.heap.size w wz by rw [hwz]; exact (Below.refl w.heap.size w).alloc (Nat.le_refl _) _)
  have HZ := Lib.hid (show Box3 wz w.heap.size (.slice none 0 0) (.slice none 0 0) (.slice none 0 0) ∧ ∀ off, wz.frozen? ⟨w.heap.size, off, none⟩ = false by rw [hwz]; exact ⟨Box3.made _ _ _ _ _, fun off => by simp⟩)
  have HT := Lib.hid (show ThreeAt wz g 0 0 0 [] [] [] (.slice none 0 0) (.slice none 0 0) (.slice none 0 0) (wz.alloc (.cells #[.slice none 0 0, .slice none 0 0, .slice none 0 0] 27)) from
    ⟨by rw [← hzs]; exact Box3.made _ _ _ _ _, fun off => by rw [← hzs]; simp, own_nil, own_nil, own_nil, .inl rfl, .inl rfl, .inl rfl, (Below.refl _ _).alloc (Nat.le_refl _) _, by simp [hzs]⟩)
  go_enter Try.func139, Try.ntmps139
  go_wp2
  rw [← hwz, ← hg]
  have HWZ := Lib.hid hwz
  have HGG := Lib.hid hg
  have hgz : wz.heap.size ≤ g := by omega
  have HZS := Lib.hid hzs
  have hgw : w.heap.size < g := by omega
  clear hwz hg hzs
  go_loopw [2] (fun iv wr => ∃ i : Nat, i ≤ 6 ∧ iv = .int .i64 i ∧ ∃ v0 v1 v2, ThreeAt wz g i i (6 * i) (List.replicate i 1) (List.replicate i 1) (Co.urel (6 * i)) v0 v1 v2 wr) (fun i _ => 6 - (intOf i).toNat)
  case atStart => exact ⟨0, Nat.zero_le _, rfl, _, _, _, HT.out⟩
  case round =>
    clear HT
    obtain ⟨i, hi6, rfl, v0, v1, v2, hT⟩ := hrel
    have HT := Lib.hid hT
    clear hT
    by_cases hlt : i < 6
    · have k0 : decide ((i : Int) < 6) = true := by simp; omega
      have hgs := HT.out.2.2.2.2.2.2.2.2.2
      have b0 := HT.out.1.1
      go_wp2_with (first | (at_builtin; refine append_int_at wr rfl _ _ 25 rfl (g + 1) 3 i0 Try.underlying25 Hi.out hz0 hz1 hz2 v0 i (List.replicate i 1) rfl HT.out.2.2.1 (by first | (simp; done) | exact (Co.urel_length _).symm) (1) (by first | rfl | (rw [World.size_setCell]; rfl)) (by first | (simp; omega) | (rw [Co.urel_length]; omega)) (by omega) ?_; intro v' w2 hown hgrow hwh; rw [← List.replicate_succ', List.length_replicate] at hown; obtain ⟨Aw2, cw2, rfl⟩ := own_slice hown; have mw2 := Three.mid0 HT.out hgrow; have qw2 := (mw2.1 0).trans HT.out.1.1; have ew2 := mw2.2 0; have HT2 := Lib.hid (Three.push0 hgz HT.out hown hgrow hwh); have b1 := (mw2.1 1).trans HT.out.1.2.1; have hgs := HT2.out.2.2.2.2.2.2.2.2.2; clear hown hgrow hwh mw2) | (at_builtin; refine append_int_at (World.setCell w2 ⟨g, 0, none⟩ (.slice Aw2 (i + 1) cw2)) rfl _ _ 25 rfl (g + 1) 3 i0 Try.underlying25 Hi.out hz0 hz1 hz2 v1 i (List.replicate i 1) rfl HT2.out.2.2.2.1 (by first | (simp; done) | exact (Co.urel_length _).symm) (1) (by first | rfl | (rw [World.size_setCell]; rfl)) (by first | (simp; omega) | (rw [Co.urel_length]; omega)) (by omega) ?_; intro v' w3 hown hgrow hwh; rw [← List.replicate_succ', List.length_replicate] at hown; obtain ⟨Aw3, cw3, rfl⟩ := own_slice hown; have mw3 := Three.mid1 HT2.out hgrow; have qw3 := (mw3.1 1).trans HT2.out.1.2.1; have ew3 := mw3.2 1; have HT3 := Lib.hid (Three.push1 hgz HT2.out hown hgrow hwh); have hgs := HT3.out.2.2.2.2.2.2.2.2.2; clear hown hgrow hwh mw3))
      clear HT HT2 b0 b1 qw2 ew2 qw3 ew3 hgs
      obtain ⟨wq, hwq⟩ : ∃ wq, wq = World.setCell w3 ⟨g, 1, none⟩ (.slice Aw3 (i + 1) cw3) := ⟨_, rfl⟩
      rw [← hwq] at HT3
      rw [← hwq]
      clear hwq
      go_loopw [3] (fun jv wr => ∃ j : Nat, j ≤ 6 ∧ jv = .int .i64 j ∧ ∃ v0 v1 v2, ThreeAt wz g (i + 1) (i + 1) (6 * i + j) (List.replicate (i + 1) 1) (List.replicate (i + 1) 1) (Co.urel (6 * i + j)) v0 v1 v2 wr) (fun j _ => 6 - (intOf j).toNat)
      case atStart => exact ⟨0, Nat.zero_le _, rfl, _, _, _, HT3.out⟩
      case round =>
        clear HT3
        obtain ⟨j, hj6, rfl, p0, p1, p2, hT⟩ := hrel
        have HT := Lib.hid hT
        clear hT
        by_cases hjl : j < 6
        · have k1 : decide ((j : Int) < 6) = true := by simp; omega
          have hgs := HT.out.2.2.2.2.2.2.2.2.2
          have b2 := HT.out.1.2.2
          have hm : (6 * i + j) / 6 = i := by omega
          have hr : (6 * i + j) % 6 = j := by omega
          have hur := Co.urel_succ (6 * i + j)
          rw [hm, hr] at hur
          clear hm hr
          obtain ⟨q, hq⟩ : ∃ q, q = 6 * i + j := ⟨_, rfl⟩
          rw [← hq] at hur HT
          have hq36 : q + 1 ≤ 36 := by omega
          by_cases hij : i = j
          · have e1 : ((i : Int) == (j : Int)) = true := by simp [hij]
            have Hs := Lib.hid (show Co.urel q ++ [0] = Co.urel (q + 1) by rw [hur, if_pos hij])
            have HQ := Lib.hid hq
            clear hur hij hq
            go_wp2_with (at_builtin; refine append_int_at wr rfl _ _ 25 rfl (g + 1) 3 i0 Try.underlying25 Hi.out hz0 hz1 hz2 p2 q (Co.urel q) rfl HT.out.2.2.2.2.1 (by first | (simp; done) | exact (Co.urel_length _).symm) (0) (by first | rfl | (rw [World.size_setCell]; rfl)) (by first | (simp; omega) | (rw [Co.urel_length]; omega)) (by omega) ?_; intro v' w4 hown hgrow hwh; rw [Hs.out, Co.urel_length] at hown; obtain ⟨Aw4, cw4, rfl⟩ := own_slice hown; have mw4 := Three.mid2 HT.out hgrow; have qw4 := (mw4.1 2).trans HT.out.1.2.2; have ew4 := mw4.2 2; have HT4 := Lib.hid (Three.push2 hgz HT.out hown hgrow hwh); skip; clear hown hgrow hwh mw4)
            go_roundw
            case rel => exact ⟨j + 1, by omega, by go_num, _, _, _, by rw [show 6 * i + (j + 1) = q + 1 by rw [HQ.out]; omega]; exact HT4.out⟩
            case measure => simp [intOf]; omega
          · have e1 : ((i : Int) == (j : Int)) = false := by simp; omega
            have Hs := Lib.hid (show Co.urel q ++ [1] = Co.urel (q + 1) by rw [hur, if_neg hij])
            have HQ := Lib.hid hq
            clear hur hij hq
            go_wp2_with (at_builtin; refine append_int_at wr rfl _ _ 25 rfl (g + 1) 3 i0 Try.underlying25 Hi.out hz0 hz1 hz2 p2 q (Co.urel q) rfl HT.out.2.2.2.2.1 (by first | (simp; done) | exact (Co.urel_length _).symm) (1) (by first | rfl | (rw [World.size_setCell]; rfl)) (by first | (simp; omega) | (rw [Co.urel_length]; omega)) (by omega) ?_; intro v' w4 hown hgrow hwh; rw [Hs.out, Co.urel_length] at hown; obtain ⟨Aw4, cw4, rfl⟩ := own_slice hown; have mw4 := Three.mid2 HT.out hgrow; have qw4 := (mw4.1 2).trans HT.out.1.2.2; have ew4 := mw4.2 2; have HT4 := Lib.hid (Three.push2 hgz HT.out hown hgrow hwh); skip; clear hown hgrow hwh mw4)
            go_roundw
            case rel => exact ⟨j + 1, by omega, by go_num, _, _, _, by rw [show 6 * i + (j + 1) = q + 1 by rw [HQ.out]; omega]; exact HT4.out⟩
            case measure => simp [intOf]; omega
        · obtain rfl : j = 6 := by omega
          have k1 : decide (((6 : Nat) : Int) < 6) = false := rfl
          go_wp2
          go_roundw
          case rel => exact ⟨i + 1, by omega, by go_num, p0, p1, p2, by rw [show 6 * (i + 1) = 6 * i + 6 by omega]; exact HT.out⟩
          case measure => simp [intOf]; omega
    · obtain rfl : i = 6 := by omega
      obtain ⟨hb, hf, o0, o1, o2, a01, a02, a12, hB, hgl⟩ := HT.out
      obtain ⟨A0, c0, rfl⟩ := own_slice o0
      obtain ⟨A1, c1, rfl⟩ := own_slice o1
      obtain ⟨A2, c2, rfl⟩ := own_slice o2
      obtain ⟨b0, b1, b2⟩ := hb
      obtain ⟨z0, z1, z2⟩ := HZ.out.1.below hB (by rw [HZS.out]; exact hgw)
      have zf : ∀ off, wr.frozen? ⟨w.heap.size, off, none⟩ = false := fun off => by
        have e := hB.block w.heap.size (by rw [HZS.out]; exact hgw)
        have := HZ.out.2 off
        unfold World.frozen? at this ⊢
        simp only [e]
        exact this
      have f0 := zf 0
      have f1 := zf 1
      have f2 := zf 2
      have k1 : decide (((6 : Nat) : Int) < 6) = false := rfl
      have keep : ∀ (v : Value) (n : Nat) (ys : List Value) (u0 u1 u2 : Value), wr.ownsRow (g + 1) 3 1 v n ys → (((wr.setCell ⟨w.heap.size, 0, none⟩ u0).setCell ⟨w.heap.size, 1, none⟩ u1).setCell ⟨w.heap.size, 2, none⟩ u2).ownsRow w.heap.size 3 1 v n ys := fun _ _ _ _ _ _ k =>
        own_base (own_grown (own_grown (own_grown k (Kit.grown_set _ _ _ _) (fun b hb => by injection hb with hb; omega)) (Kit.grown_set _ _ _ _) (fun b hb => by injection hb with hb; omega)) (Kit.grown_set _ _ _ _) (fun b hb => by injection hb with hb; omega)) (by omega)
      have KP := Lib.hid keep
      have O0 := Lib.hid o0
      have O1 := Lib.hid o1
      have O2 := Lib.hid o2
      have HA := Lib.hid (And.intro a01 (And.intro a02 a12))
      have HBW := Lib.hid (HBZ.out.trans (hB.mono HBZ.out.size))
      clear zf hf o0 o1 o2 a01 a02 a12 hB keep hgl
      go_wp2
      (try simp only [Exit.inBlock, Exit.then])
      refine bodyPost_ret (v := .agg #[.slice A0 6 c0, .slice A1 6 c1, .slice A2 36 c2]) ?_ rfl ?_
      · rw [results_cell1 rfl]
        go_simp
      · have h2 : Co.unit.r.length = 36 := Co.urel_length 36
        refine ⟨A0, A1, A2, c0, c1, c2, by rw [h2]; rfl, KP.out _ _ _ _ _ _ O0.out, KP.out _ _ _ _ _ _ O1.out, by rw [h2]; exact KP.out _ _ _ _ _ _ O2.out, HA.out.1, by rw [h2]; exact HA.out.2.1, by rw [h2]; exact HA.out.2.2, ((HBW.out.setCell (Nat.le_refl _) _).setCell (Nat.le_refl _) _).setCell (Nat.le_refl _) _⟩

end Go.Proofs.Ytlndaflhlkbedaa

/- Contracts (SideI). -/
namespace Go.Proofs.Ytlndaflhlkbedaa
open Go.RowKit
set_option linter.unusedVariables false

/-- out = append(out, x) in a region that draws its order, out a row of ints of the call's own -/
theorem step_append_int {P : Program} {ops : Array Oper} {o : Oper} {a : Act} (w : World) {K : Act → World → Prop} {Q : Exit → Act → World → Prop} {E : Prop} (hgd : o.guard = none) (s x : Operand) (t : TypeId)
    (ho : o.op = .call { callee := .builtin .append, args := #[s, x], argTypes := #[t, t] })
    (base : Nat) (e : TypeId) (i : TypeInfo) (ht : P.underlying t = some (.slice e)) (hi : P.info? e = some i) (hz : i.zero = some (.int .i64 0))
    (hsize : i.size = 1) (hby : i.bytes = 8) (v : Value) (n : Nat) (l : List Int) (hs : a.eval s = v) (hown : w.ownsRow base e 1 v n (ints l)) (hn : n = l.length)
    (b : Int) (hx : a.eval x = .slice (some ⟨w.heap.size, 0, none⟩) 1 1)
    (N : Nat) (hN : N = l.length + 1) (h63 : l.length + 1 ≤ 1073741824) (hbase : base ≤ w.heap.size)
    (h : ∀ v' w', w'.ownsRow base e 1 v' N (ints (l ++ [b])) → (w.alloc (.cells #[.int .i64 b] e)).grownBy w' v.ownBlock → K (a.put o.dst v') w') :
    if Region.wanted o (yielded ops a.tmps) = true then Oper.wp P o a (w.alloc (.cells #[.int .i64 b] e)) K Q else E := by
  have hw : Region.wanted o (yielded ops a.tmps) = true := by simp [Region.wanted, hgd]
  rw [if_pos hw]
  subst hn
  subst hN
  refine wp_append_own _ s x t ho base e i (.int .i64 0) 1 8 ht hi hz hsize hby rfl (by decide) v l.length (ints l) hs (hown.alloc _) ⟨w.heap.size, 0, none⟩ 1 1 [.int .i64 b] hx rfl ?_ ?_ ?_ ?_ ?_ ?_
  · intro j u hj
    have hj0 : j = 0 := by
      have := (List.getElem?_eq_some_iff.1 hj).1
      simpa using this
    subst hj0
    simp at hj
    subst hj
    simp [Addr.add]
  · intro u hu; simp at hu; subst hu; rfl
  · unfold maxLen; omega
  · omega
  · simp; omega
  · intro v' w' h2 h3 _
    refine h v' w' ?_ h3
    rw [ints_append]
    exact h2
/-- a struct of three rows in block g, the first of which grows in blocks from b0 on -/
structure SdA (g b0 : Nat) (v1 v2 : Value) (L : List Int) (v0 : Value) (w2 w3 wr : World) : Prop where
  c0 : wr.cell? ⟨g, 0, none⟩ = some v0
  c1 : wr.cell? ⟨g, 1, none⟩ = some v1
  c2 : wr.cell? ⟨g, 2, none⟩ = some v2
  fz : ∀ off, wr.frozen? ⟨g, off, none⟩ = false
  row : wr.ownsRow b0 3 1 v0 L.length (ints L)
  kb : ∀ p : Addr, p.block < b0 → p.block ≠ g → wr.cell? p = w3.cell? p
  bl : Below g w2 wr
  sz : b0 ≤ wr.heap.size
theorem SdA.drew {g b0 : Nat} {v1 v2 v0 : Value} {L : List Int} {w2 w3 wr : World} (h : SdA g b0 v1 v2 L v0 w2 w3 wr) : SdA g b0 v1 v2 L v0 w2 w3 wr.drew :=
  ⟨h.c0, h.c1, h.c2, h.fz, own_drawn h.row (Drawn.refl _).drew, h.kb, Drawn.below h.bl (Drawn.refl _).drew, h.sz⟩
theorem SdA.mid {g b0 : Nat} {v1 v2 v0 : Value} {L : List Int} {w2 w3 wr w' : World} {o : Obj} (hg : g < b0) (h : SdA g b0 v1 v2 L v0 w2 w3 wr) (hgrow : (wr.alloc o).grownBy w' v0.ownBlock) :
    Below b0 wr w' := by
  have ha : Below b0 wr (wr.alloc o) := (Below.refl _ _).alloc h.sz o
  refine ha.grown hgrow ?_ (fun k hk => (h.row.lt k hk).1)
  have : (wr.alloc o).heap.size = wr.heap.size + 1 := by simp
  have := h.sz
  omega
theorem SdA.push {g b0 n : Nat} {v1 v2 v0 v' : Value} {L L' : List Int} {w2 w3 wr w' : World} (hg : g < b0) (h : SdA g b0 v1 v2 L v0 w2 w3 wr) (hb : Below b0 wr w') (hown : w'.ownsRow b0 3 1 v' n (ints L')) (hn : n = L'.length) :
    SdA g b0 v1 v2 L' v' w2 w3 (w'.setCell ⟨g, 0, none⟩ v') := by
  subst hn
  refine ⟨?_, ?_, ?_, fun off => ?_, own_grown hown (Kit.grown_set w' g _ _) (fun b hb => by injection hb with hb; omega), fun p h1 h2 => ?_, (h.bl.trans (hb.mono (by omega))).setCell (Nat.le_refl _) _, ?_⟩
  · exact World.cell?_setCell_same' _ _ _ (by rw [hb.cell (p := ⟨g, 0, none⟩) hg, h.c0]; rfl)
  · rw [World.cell?_setCell_other _ _ _ _ (fun e => by injection e with e1 e2; omega), hb.cell (p := ⟨g, 1, none⟩) hg]; exact h.c1
  · rw [World.cell?_setCell_other _ _ _ _ (fun e => by injection e with e1 e2; omega), hb.cell (p := ⟨g, 2, none⟩) hg]; exact h.c2
  · rw [World.frozen?_setCell]; exact free_below hb hg h.fz off
  · rw [World.cell?_setCell_other _ _ _ _ (fun e => h2 (by rw [← e])), hb.cell h1]; exact h.kb p h1 h2
  · have := hb.size
    have := h.sz
    simp
    omega
/-- one side: labels, first leaves, key roots -/
def OwnSide (xs : Tr) (w : World) (e : Ending) (w' : World) : Prop :=
  ∃ A0 A1 A2 c0 c1 c2, e = .returned (.agg #[.slice A0 xs.length c0, .slice A1 xs.length c1, .slice A2 (Tr.krs xs).length c2]) ∧
    w'.ownsRow w.heap.size 3 1 (.slice A0 xs.length c0) xs.length (ints (Tr.lab xs)) ∧ w'.ownsRow w.heap.size 3 1 (.slice A1 xs.length c1) xs.length (ints (Zs.up (Tr.lfs xs))) ∧
    w'.ownsRow w.heap.size 3 1 (.slice A2 (Tr.krs xs).length c2) (Tr.krs xs).length (ints (Zs.up (Tr.krs xs))) ∧ Below w.heap.size w w'

set_option maxHeartbeats 1600000 in
set_option maxRecDepth 100000 in
theorem sideOf_any (A : Option Addr) (n c : Nat) (xs : Tr) (w : World) (h : NdIn w w.heap.size A n xs) (hnc : n ≤ c) (hok : Tr.ok xs = true) :
    Calls Try.prog 141 #[.slice A n c] w (OwnSide xs w) := by
  have hnl : xs.length = n := h.1
  obtain ⟨hn1, hn24⟩ := Tr.len24 hok
  have h0 : (Below w.heap.size w (w.alloc (.cells #[.slice none 0 0, .slice none 0 0, .slice none 0 0] 84))) := (Below.refl _ _).alloc (Nat.le_refl _) _
  have H := Lib.hid h
  have H0 := Lib.hid (h.to_below h0)
  have HK := Lib.hid hok
  clear h hok h0
  go_enter Try.func141, Try.ntmps141
  go_wp2_with fail
  refine (implLeftLeaf_any _ _ _ xs _ H0.out (by omega) hnc).mono ?_
  rintro e w1 ⟨A1, c1, rfl, o1, b1⟩
  have H1 := Lib.hid (H0.out.to_below b1)
  have O1 := Lib.hid o1
  have B1 := Lib.hid b1
  clear o1 b1
  go_wp2_with fail
  refine (implKeyRoots_any _ _ _ xs _ H1.out (by omega) hnc).mono ?_
  rintro e w2 ⟨A2, c2, rfl, o2, b2⟩
  have H2 := Lib.hid (H1.out.to_below b2)
  have O2 := Lib.hid o2
  have B2 := Lib.hid b2
  clear o2 b2
  go_wp2_with fail
  obtain ⟨g, hg⟩ : ∃ g, g = w2.heap.size := ⟨_, rfl⟩
  obtain ⟨ws, hws⟩ : ∃ ws, ws = w2.alloc (.cells #[.slice none 0 0, .slice A1 (Zs.up (Tr.lfs xs)).length c1, .slice A2 (Zs.up (Tr.krs xs)).length c2] 84) := ⟨_, rfl⟩
  have bs : Below g w2 ws := by rw [hws]; exact (Below.refl _ _).alloc (by omega) _
  have zs : ws.heap.size = g + 1 := by rw [hws, hg]; simp
  have q0 : ws.cell? ⟨g, 0, none⟩ = some (.slice none 0 0) := by rw [hws, hg]; simp
  have q1 : ws.cell? ⟨g, 1, none⟩ = some (.slice A1 (Zs.up (Tr.lfs xs)).length c1) := by rw [hws, hg]; simp
  have q2 : ws.cell? ⟨g, 2, none⟩ = some (.slice A2 (Zs.up (Tr.krs xs)).length c2) := by rw [hws, hg]; simp
  have qf : ∀ off, ws.frozen? ⟨g, off, none⟩ = false := fun off => by rw [hws, hg]; simp
  rw [← hws, ← hg]
  have HSN := Lib.hid (H2.out.to_below (w' := ws) (by rw [hg] at bs; exact bs))
  have hpl : (Zs.up (Tr.post xs)).length = xs.length := by rw [Zs.up_length, Tr.post_length HK.out]
  refine (implPostOrder_any _ _ _ xs _ HSN.out (by omega) hnc).mono ?_
  rintro e w3 ⟨A3, c3, rfl, o3, b3⟩
  have I3 := Lib.hid (IntIn.of_own o3)
  obtain ⟨b0, hb0⟩ : ∃ b0, b0 = w3.heap.size := ⟨_, rfl⟩
  have hgb : g < b0 := by have := b3.size; omega
  have st : SdA g b0 (.slice A1 (Zs.up (Tr.lfs xs)).length c1) (.slice A2 (Zs.up (Tr.krs xs)).length c2) [] (.slice none 0 0) w2 w3 w3 := by
    refine ⟨(b3.cell (p := ⟨g, 0, none⟩) (by simp; omega)).trans q0, (b3.cell (p := ⟨g, 1, none⟩) (by simp; omega)).trans q1, (b3.cell (p := ⟨g, 2, none⟩) (by simp; omega)).trans q2, fun off => free_below b3 (by omega) qf off, own_nil, fun _ _ _ => rfl, bs.trans (b3.mono (by omega)), by omega⟩
  rw [← hb0] at I3
  rw [hpl] at I3 ⊢
  have ST := Lib.hid st
  have HG := Lib.hid hg
  have HB0 := Lib.hid hb0
  have hp3 : ∀ k, k < xs.length → ∃ i : Nat, i < xs.length ∧ Zs.at (Zs.up (Tr.post xs)) k = (i : Int) ∧ Tr.xa xs k = Tr.l xs i := fun k hk => by
    obtain ⟨i, h1, _, _, h4, h5⟩ := Tr.la_at HK.out hk
    have hk2 : k < (Tr.post xs).length := by rw [Tr.post_length HK.out]; exact hk
    refine ⟨i, h1, ?_, h4⟩
    rw [Zs.up_at _ _ hk2]
    rw [List.getElem?_eq_getElem hk2] at h5
    injection h5 with h5
    rw [h5]
  have HP3 := Lib.hid hp3
  have hpos : ∃ a3, A3 = some a3 ∧ a3.block < b0 ∧ a3.block ≠ g := by
    obtain ⟨a3, e1, e2⟩ := I3.out.2.1 (by omega)
    obtain ⟨g3, f1, f2, _⟩ := own_form o3 (by rw [hpl]; omega)
    refine ⟨a3, e1, e2, ?_⟩
    rw [e1] at f1
    injection f1 with f1
    rw [f1]
    show g3 ≠ g
    omega
  obtain ⟨a3, rfl, ha3, ha4⟩ := hpos
  have LL := Lib.hid (Tr.lab_len HK.out)
  obtain ⟨i0, hi0, hz0, hz1, hz2⟩ := info_parts info_intZ
  have Hi := Lib.hid hi0
  clear st hg hb0 hp3 o3 b3 q0 q1 q2 qf bs hws hi0 zs hpl
  go_wp2
  go_loopw [14] (fun kv wr => ∃ (k : Nat) (v0 : Value), k ≤ xs.length ∧ kv = .int .i64 k ∧ SdA g b0 (.slice A1 (Zs.up (Tr.lfs xs)).length c1) (.slice A2 (Zs.up (Tr.krs xs)).length c2) ((Tr.lab xs).take k) v0 w2 w3 wr) (fun k _ => xs.length - (intOf k).toNat)
  case atStart => exact ⟨0, _, by omega, rfl, by rw [List.take_zero]; exact ST.out⟩
  case round =>
    clear ST
    obtain ⟨k, v0, hk, rfl, hs⟩ := hrel
    have SD := Lib.hid hs
    clear hs
    by_cases hlt : k < xs.length
    · obtain ⟨i, r1, r2, r3⟩ := HP3.out k hlt
      have cp := (SD.out.kb (a3.add k) (by rw [block_of_add]; exact ha3) (by rw [block_of_add]; exact ha4)).trans (I3.out.here hlt)
      rw [r2] at cp
      obtain ⟨ad, rfl, _, hl, hd⟩ := (H2.out.below (by rw [← HG.out]; exact SD.out.bl)).at_ (k := i) (by omega)
      have c0 := SD.out.c0
      have b1 : (0 : Int) ≤ (i : Int) := by omega
      have b2 : (i : Int) < (n : Int) := by omega
      have k1 : (0 : Int) ≤ (k : Int) := by omega
      have k2 : (k : Int) < (xs.length : Int) := by omega
      have ht : (Tr.lab xs).take k ++ [Tr.l xs i] = (Tr.lab xs).take (k + 1) := by
        rw [List.take_succ_eq_append_getElem (by rw [LL.out]; exact hlt), ← r3]
        congr 2
        unfold Tr.xa
        rw [List.getD_eq_getElem?_getD, List.getElem?_eq_getElem (by rw [LL.out]; exact hlt)]
        rfl
      have HT := Lib.hid ht
      have htl : ((Tr.lab xs).take k).length = k := by rw [List.length_take, LL.out]; omega
      have HTL := Lib.hid htl
      have c0a := (World.cell?_alloc_lt wr (.cells #[.int .i64 (Tr.l xs i)] 3) ⟨g, 0, none⟩ (Nat.lt_of_lt_of_le hgb SD.out.sz)).trans c0
      clear r2 r3 ht htl hd
      go_wp2
      go_region_law ((refine step_append_int wr.drew rfl _ _ 25 rfl b0 3 i0 Try.underlying25 Hi.out hz0 hz1 hz2 v0 ((Tr.lab xs).take k).length ((Tr.lab xs).take k) rfl SD.out.drew.row rfl (Tr.l xs i) rfl (k + 1) (by rw [HTL.out]) (by rw [HTL.out]; omega) SD.out.sz ?_; intro v' w4 hown hgrow; obtain ⟨Av, cv, rfl⟩ := own_slice hown; have hb4 := SdA.mid hgb SD.out.drew hgrow; have hc4 := (hb4.cell (p := ⟨g, 0, none⟩) hgb).trans SD.out.c0; have hf4 := free_below hb4 hgb SD.out.fz 0))
      all_goals
        rw [HT.out] at hown
        have HP := Lib.hid (SdA.push hgb SD.out.drew hb4 hown (by rw [List.length_take, LL.out]; omega))
        clear hown hgrow hb4
        go_wp2
        go_roundw
        case rel => exact ⟨k + 1, _, by omega, by go_num, HP.out⟩
        case measure => simp [intOf]; omega
    · have hke : k = xs.length := by omega
      have htl : (Tr.lab xs).take k = Tr.lab xs := List.take_of_length_le (by rw [LL.out]; omega)
      rw [htl] at SD
      clear htl
      have ba : Below (w.heap.size + 1) (w.alloc (.cells #[.slice none 0 0, .slice none 0 0, .slice none 0 0] 84)) wr := by
        have e1 : (w.alloc (.cells #[.slice none 0 0, .slice none 0 0, .slice none 0 0] 84)).heap.size = w.heap.size + 1 := by simp
        have b1 := B1.out
        rw [e1] at b1
        have s1 := b1.size
        have s2 := B2.out.size
        have s3 := HG.out
        refine (b1.trans (B2.out.mono (by omega))).trans (SD.out.bl.mono (by omega))
      have y0 := (ba.cell (p := ⟨w.heap.size, 0, none⟩) (by simp)).trans (show _ = some (.slice none 0 0) by simp)
      have y1 := (ba.cell (p := ⟨w.heap.size, 1, none⟩) (by simp)).trans (show _ = some (.slice none 0 0) by simp)
      have y2 := (ba.cell (p := ⟨w.heap.size, 2, none⟩) (by simp)).trans (show _ = some (.slice none 0 0) by simp)
      have yf := free_below (g := w.heap.size) ba (by omega) (fun off => by simp)
      have yf0 := yf 0
      have yf1 := yf 1
      have yf2 := yf 2
      have c0 := SD.out.c0
      have c1' := SD.out.c1
      have c2' := SD.out.c2
      have hgne : g ≠ w.heap.size := by
        have s1 := B1.out.size
        have s2 := B2.out.size
        have s3 := HG.out
        have e1 : (w.alloc (.cells #[.slice none 0 0, .slice none 0 0, .slice none 0 0] 84)).heap.size = w.heap.size + 1 := by simp
        omega
      have HBA := Lib.hid ba
      obtain ⟨A0, c0v, hv0⟩ := own_slice SD.out.row
      subst hv0
      rw [LL.out] at c0
      clear ba yf hke
      go_wp2
      (try simp only [Exit.inBlock, Exit.then])
      refine bodyPost_ret (v := .agg #[.slice A0 xs.length c0v, .slice A1 (Zs.up (Tr.lfs xs)).length c1, .slice A2 (Zs.up (Tr.krs xs)).length c2]) ?_ rfl ?_
      · rw [results_cell1 rfl]
        go_simp
      · have e1 : (w.alloc (.cells #[.slice none 0 0, .slice none 0 0, .slice none 0 0] 84)).heap.size = w.heap.size + 1 := by simp
        have s1 := B1.out.size
        have s2 := B2.out.size
        have s3 := HG.out
        have p1 := own_below (own_below O1.out B2.out) (by rw [← HG.out]; exact SD.out.bl)
        have p2 := own_below O2.out (by rw [← HG.out]; exact SD.out.bl)
        have keep : ∀ {v : Value} {n base : Nat} {ys : List Value} (u0 u1 u2 : Value), w.heap.size < base → wr.ownsRow base 3 1 v n ys → (((wr.setCell ⟨w.heap.size, 0, none⟩ u0).setCell ⟨w.heap.size, 1, none⟩ u1).setCell ⟨w.heap.size, 2, none⟩ u2).ownsRow w.heap.size 3 1 v n ys := fun u0 u1 u2 hlt k =>
          own_base (own_grown (own_grown (own_grown k (Kit.grown_set _ _ _ _) (fun b hb => by injection hb with hb; omega)) (Kit.grown_set _ _ _ _) (fun b hb => by injection hb with hb; omega)) (Kit.grown_set _ _ _ _) (fun b hb => by injection hb with hb; omega)) (by omega)
        have hu1 : (Zs.up (Tr.lfs xs)).length = xs.length := by rw [Zs.up_length, Tr.lfs_len HK.out]
        have hu2 : (Zs.up (Tr.krs xs)).length = (Tr.krs xs).length := Zs.up_length _
        have r0 := SD.out.row
        rw [LL.out] at r0
        rw [hu1] at p1 ⊢
        rw [hu2] at p2 ⊢
        have hbw : Below w.heap.size w wr := ((Below.refl w.heap.size w).alloc (Nat.le_refl _) _).trans (HBA.out.mono (by omega))
        exact ⟨A0, A1, A2, c0v, c1, c2, rfl, keep _ _ _ (by omega) r0, keep _ _ _ (by omega) p1, keep _ _ _ (by omega) p2, ((hbw.setCell (Nat.le_refl _) _).setCell (Nat.le_refl _) _).setCell (Nat.le_refl _) _⟩

end Go.Proofs.Ytlndaflhlkbedaa

/- Contracts (FullM). -/
namespace Go.Proofs.Ytlndaflhlkbedaa
open Go.RowKit
set_option linter.unusedVariables false

/-! How the table is made. -/
/-- make([]int, n) in a region that draws, as the walk leaves it -/
theorem upon_make {P : Program} {o : Oper} {a : Act} {w : World} {K : Act → World → Prop} {Q : Exit → Act → World → Prop} (base : Nat) (t e : TypeId) (i : TypeInfo) (ht : P.underlying t = some (.slice e)) (hi : P.info? e = some i) (hz : i.zero = some (.int .i64 0)) (hsize : i.size = 1) (hby : i.bytes = 8)
    (n : Nat) (hn : n ≤ 1048576) (hbase : base ≤ w.heap.size)
    (h : ∀ w', w'.ownsRow base e 1 (.slice (some ⟨w.heap.size, 0, none⟩) n n) n (ints (List.replicate n 0)) → w.grownBy w' none → K (a.put o.dst (.slice (some ⟨w.heap.size, 0, none⟩) n n)) w') :
    Oper.upon P o a K Q ((Sem.run P (Instr.makeSlice t (.int .i64 (n : Int)) (.int .i64 (n : Int))) w).andThen fun v w' => .ok (.value v) w') := by
  obtain ⟨w', hrun, r1, r2⟩ := run_make_full (P := P) w base t e i (.int .i64 0) 1 ht hi hz hsize .i64 .i64 n (by rw [hby]; omega) (by unfold maxLen; omega) hbase
  rw [made_zeros 0 n] at r1
  rw [hrun]
  exact h w' r1 r2
/-- the cells of a new table -/
def dtCells (z : Array Value) (a0 a1 a2 b0 b1 b2 k0 k1 k2 t : Value) : Array Value := (((((((((z.setIfInBounds 0 a0).setIfInBounds 1 a1).setIfInBounds 2 a2).setIfInBounds 3 b0).setIfInBounds 4 b1).setIfInBounds 5 b2).setIfInBounds 6 k0).setIfInBounds 7 k1).setIfInBounds 8 k2).setIfInBounds 9 t
theorem dt_cells (a0 a1 a2 b0 b1 b2 k0 k1 k2 t : Value) : dtCells Try.zeroCells89 a0 a1 a2 b0 b1 b2 k0 k1 k2 t = ⟨[a0, a1, a2, b0, b1, b2, k0, k1, k2, t] ++ List.replicate 625 (.int .i64 0)⟩ := by kernel_rfl
theorem dtCells_zero (a0 a1 a2 b0 b1 b2 k0 k1 k2 t : Value) (x y : Nat) (hx : x < 25) (hy : y < 25) : (dtCells Try.zeroCells89 a0 a1 a2 b0 b1 b2 k0 k1 k2 t)[10 + x * 25 + y]? = some (.int .i64 0) := by
  rw [dt_cells, List.getElem?_toArray, List.getElem?_append_right (by simp; omega), List.getElem?_replicate, if_pos (by simp; omega)]
/-- a row of the call's own, seen from a block that is made behind it -/
theorem RowOff.of_own {w : World} {base ga gt n c : Nat} {zs : List Int} {o : Obj} (h : w.ownsRow base 3 1 (.slice (some ⟨ga, 0, none⟩) n c) n (ints zs)) (hg : ga < w.heap.size) (hne : ga ≠ gt) : RowOff (w.alloc o) w.heap.size gt ⟨ga, 0, none⟩ n zs := by
  have hlen : zs.length = n := by have := h.1; rw [ints_length] at this; omega
  refine ⟨hlen, by simp; omega, by show ga ≠ w.heap.size; omega, hne, fun k hk => ?_⟩
  have := (h.alloc o).cells rfl k _ (ints_at zs k (by omega))
  exact this
theorem RowOff.of_in {w : World} {B gt n : Nat} {ad : Addr} {zs : List Int} {o : Obj} (h : IntIn w B (some ad) n zs) (hb : ad.block < B) (hB : B ≤ gt) (hg : gt < w.heap.size) : RowOff (w.alloc o) w.heap.size gt ad n zs := by
  refine ⟨h.1, by simp; omega, by omega, by omega, fun k hk => ?_⟩
  rw [World.cell?_alloc_lt w o _ (by rw [block_of_add]; omega)]
  exact h.here hk
theorem cell_made (w : World) (cs : Array Value) (e : TypeId) (off : Nat) (u : Value) (hu : cs[off]? = some u) : (w.alloc (.cells cs e)).cell? ⟨w.heap.size, off, none⟩ = some u := by simp [hu]
theorem free_made (w : World) (cs : Array Value) (e : TypeId) (off : Nat) : (w.alloc (.cells cs e)).frozen? ⟨w.heap.size, off, none⟩ = false := by simp
theorem size_made (w : World) (cs : Array Value) (e : TypeId) : (w.alloc (.cells cs e)).heap.size = w.heap.size + 1 := by simp
set_option maxRecDepth 100000 in
/-- the table, new -/
theorem DT.made {B nm : Nat} {xs ys : Tr} {k : Co} {w : World} {ga0 ga1 ga2 gb0 gb1 gb2 gt ca0 ca1 ca2 cb0 cb1 cb2 ck0 ck1 ck2 : Nat} {k0 k1 k2 : Addr}
    (a0 : w.ownsRow B 3 1 (.slice (some ⟨ga0, 0, none⟩) xs.length ca0) xs.length (ints (Tr.lab xs))) (a1 : w.ownsRow B 3 1 (.slice (some ⟨ga1, 0, none⟩) xs.length ca1) xs.length (ints (Zs.up (Tr.lfs xs)))) (a2 : w.ownsRow B 3 1 (.slice (some ⟨ga2, 0, none⟩) (Tr.krs xs).length ca2) (Tr.krs xs).length (ints (Zs.up (Tr.krs xs))))
    (b0 : w.ownsRow B 3 1 (.slice (some ⟨gb0, 0, none⟩) ys.length cb0) ys.length (ints (Tr.lab ys))) (b1 : w.ownsRow B 3 1 (.slice (some ⟨gb1, 0, none⟩) ys.length cb1) ys.length (ints (Zs.up (Tr.lfs ys)))) (b2 : w.ownsRow B 3 1 (.slice (some ⟨gb2, 0, none⟩) (Tr.krs ys).length cb2) (Tr.krs ys).length (ints (Zs.up (Tr.krs ys))))
    (hnm : nm = xs.length * ys.length) (t : w.ownsRow B 3 1 (.slice (some ⟨gt, 0, none⟩) nm nm) nm (ints (List.replicate nm 0)))
    (hk : CoIn w B (some k0) (some k1) (some k2) 6 6 36 k)
    (na : ga0 ≠ gt ∧ ga1 ≠ gt ∧ ga2 ≠ gt ∧ gb0 ≠ gt ∧ gb1 ≠ gt ∧ gb2 ≠ gt) (nl : ga0 < w.heap.size ∧ ga1 < w.heap.size ∧ ga2 < w.heap.size ∧ gb0 < w.heap.size ∧ gb1 < w.heap.size ∧ gb2 < w.heap.size) (ht : B ≤ gt ∧ gt < w.heap.size) :
    DT B ⟨w.heap.size, gt, ⟨ga0, 0, none⟩, ⟨ga1, 0, none⟩, ⟨ga2, 0, none⟩, ⟨gb0, 0, none⟩, ⟨gb1, 0, none⟩, ⟨gb2, 0, none⟩, k0, k1, k2, ca0, ca1, ca2, cb0, cb1, cb2, ck0, ck1, ck2⟩ xs ys k (fun _ _ => 0) (List.replicate nm 0)
      (w.alloc (.cells (dtCells Try.zeroCells89 (.slice (some ⟨ga0, 0, none⟩) xs.length ca0) (.slice (some ⟨ga1, 0, none⟩) xs.length ca1) (.slice (some ⟨ga2, 0, none⟩) (Tr.krs xs).length ca2) (.slice (some ⟨gb0, 0, none⟩) ys.length cb0) (.slice (some ⟨gb1, 0, none⟩) ys.length cb1) (.slice (some ⟨gb2, 0, none⟩) (Tr.krs ys).length cb2)
        (.slice (some k0) 6 ck0) (.slice (some k1) 6 ck1) (.slice (some k2) 36 ck2) (.slice (some ⟨gt, 0, none⟩) nm nm)) 89)) := by
  subst hnm
  obtain ⟨_, e0, q0⟩ := hk.1.2.1 (by omega)
  injection e0 with e0; subst e0
  obtain ⟨_, e1, q1⟩ := hk.2.1.2.1 (by omega)
  injection e1 with e1; subst e1
  obtain ⟨_, e2, q2⟩ := hk.2.2.2.1 (by omega)
  injection e2 with e2; subst e2
  exact {
    gB := by show B ≤ w.heap.size; omega
    gl := by show w.heap.size < _; rw [size_made]; omega
    gg := by show gt ≠ w.heap.size; omega
    fz := free_made _ _ _
    h0 := cell_made _ _ _ 0 _ (by rw [dt_cells]; rfl), h1 := cell_made _ _ _ 1 _ (by rw [dt_cells]; rfl), h2 := cell_made _ _ _ 2 _ (by rw [dt_cells]; rfl), h3 := cell_made _ _ _ 3 _ (by rw [dt_cells]; rfl), h4 := cell_made _ _ _ 4 _ (by rw [dt_cells]; rfl), h5 := cell_made _ _ _ 5 _ (by rw [dt_cells]; rfl), h6 := cell_made _ _ _ 6 _ (by rw [dt_cells]; rfl), h7 := cell_made _ _ _ 7 _ (by rw [dt_cells]; rfl), h8 := cell_made _ _ _ 8 _ (by rw [dt_cells]; rfl), h9 := cell_made _ _ _ 9 _ (by rw [dt_cells]; rfl)
    fr := fun x y hx hy => cell_made _ _ _ _ _ (dtCells_zero _ _ _ _ _ _ _ _ _ _ x y hx hy)
    row := t.alloc _
    ra0 := RowOff.of_own a0 nl.1 na.1, ra1 := RowOff.of_own a1 nl.2.1 na.2.1, ra2 := RowOff.of_own a2 nl.2.2.1 na.2.2.1
    rb0 := RowOff.of_own b0 nl.2.2.2.1 na.2.2.2.1, rb1 := RowOff.of_own b1 nl.2.2.2.2.1 na.2.2.2.2.1, rb2 := RowOff.of_own b2 nl.2.2.2.2.2 na.2.2.2.2.2
    rk0 := RowOff.of_in hk.1 q0 ht.1 ht.2, rk1 := RowOff.of_in hk.2.1 q1 ht.1 ht.2, rk2 := RowOff.of_in hk.2.2 q2 ht.1 ht.2 }

end Go.Proofs.Ytlndaflhlkbedaa

/- The last pair of key roots. -/
namespace Go.Proofs.Ytlndaflhlkbedaa
open Go.RowKit
set_option linter.unusedVariables false

theorem Tr.kr_end {xs : Tr} (h : Tr.ok xs = true) {a : Nat} (ha : a + 1 = (Tr.krs xs).length) : Tr.kr xs a = xs.length - 1 := by
  obtain ⟨r, hr⟩ := Tr.krs_last h
  unfold Tr.kr
  rw [hr] at ha ⊢
  rw [List.length_append, List.length_singleton] at ha
  rw [List.getD_eq_getElem?_getD, List.getElem?_append_right (by omega), show a - r.length = 0 by omega]
  rfl
/-- the forests behind the last pair of key roots -/
theorem fill_last {xs ys : Tr} {k : Co} {kk ll y : Nat} {F : Nat → Nat → Int} {T0 T : List Int} (hx : Tr.ok xs = true) (hy : Tr.ok ys = true) (hk : kk + 1 = (Tr.krs xs).length) (hl : ll + 1 = (Tr.krs ys).length)
    (h : Fill xs ys k (Tr.kr xs kk) (Tr.kr ys ll) (Tr.kr xs kk + 1) y F T0 T) : ∀ a b, a ≤ xs.length → b ≤ ys.length → F a b = RR xs ys k 0 a 0 b := by
  intro a b ha hb
  have n1 := (Tr.len24 hx).1
  have n2 := (Tr.len24 hy).1
  have e1 := Tr.kr_end hx hk
  have e2 := Tr.kr_end hy hl
  have f := h.f a b
  rw [e1, e2, Tr.la_last hx, Tr.la_last hy] at f
  exact f (Nat.zero_le _) (by omega) (Nat.zero_le _) (by omega) (.inl (by omega))

end Go.Proofs.Ytlndaflhlkbedaa
