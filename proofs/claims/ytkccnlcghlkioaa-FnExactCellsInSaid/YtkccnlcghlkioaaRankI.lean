/- Contracts (RankI). -/
import Derived.Test.YtkccnlcghlkioaaPst2
import Derived.Test.YtkccnlcghlkioaaPostS
import Derived.Test.YtkccnlcghlkioaaPart
import Derived.Test.YtkccnlcghlkioaaEndOfI
import Derived.Deep.RegionHeld3
namespace Go.Proofs.Ytkccnlcghlkioaa
open Go.RowKit
set_option linter.unusedVariables false

theorem Tr.rks_val {xs : Tr} (hok : Tr.ok xs = true) {k : Nat} (hk : k < xs.length) : Zs.at (Zs.up (Tr.rks xs)) k = (Tr.rk xs k : Nat) := by
  have := Tr.post_length hok
  rw [Zs.up_at _ _ (by rw [Tr.rks_length]; omega)]
  simp [Tr.rks]
theorem Tr.rk_sum {xs : Tr} (hok : Tr.ok xs = true) {k : Nat} (hk : k < xs.length) : Tr.endOf xs (k : Int) - 1 - Tr.d xs k = (Tr.rk xs k : Nat) := by
  have h1 := (Tr.endN_dn hok hk).1
  have h2 := Tr.dn_eq hok hk
  have h3 := Tr.dn_le hok hk
  rw [Tr.endOf_yes (Tr.has_iff.2 ⟨hok, by omega, by omega⟩)]
  unfold Tr.rk
  omega
set_option maxHeartbeats 1600000 in
set_option maxRecDepth 100000 in
theorem implRankOf_any (A : Option Addr) (n c : Nat) (xs : Tr) (w : World) (h : NdIn w w.heap.size A n xs) (hn : n ≤ 1048576) (hnc : n ≤ c) :
    Calls Try.prog 98 #[.slice A n c] w (OwnInts 3 (Zs.up (Tr.rks xs)) w) := by
  have H := Lib.hid h
  clear h
  have HL := Lib.hid H.out.1
  rcases hok : Tr.ok xs with _ | _
  · have Hf := Lib.hid (show Zs.up (Tr.rks xs) = [] by unfold Tr.rks; rw [Tr.post_none hok]; rfl)
    have Hok := Lib.hid hok
    clear hok
    go_enter Try.func98, Try.ntmps98
    go_wp2_with fail
    refine (implTreeOk_any _ _ _ xs _ H.out hn hnc).mono ?_
    rintro e w1 ⟨rfl, hb⟩
    have HB := Lib.hid hb
    clear hb
    rw [Hok.out]
    go_wp2
    go_ret
    exact ⟨_, _, by rw [Hf.out]; rfl, by rw [Hf.out]; exact own_nil, HB.out⟩
  · have hle := (Tr.ok_iff.1 hok).2
    have hpl := Tr.post_length hok
    rw [HL.out] at hle hpl
    obtain ⟨F, hF⟩ : ∃ F, F = Zs.up (Tr.rks xs) := ⟨_, rfl⟩
    have HFl := Lib.hid (show F.length = n by rw [hF, Zs.up_length, Tr.rks_length, hpl])
    have HFa := Lib.hid (fun k hk => (congrArg (fun G => Zs.at G k) hF).trans (Tr.rks_val hok (k := k) hk))
    have HS := Lib.hid (fun k hk => Tr.rk_sum hok (k := k) hk)
    have HE := Lib.hid (fun k hk => Tr.endN_dn hok (i := k) hk)
    have HY := Lib.hid (fun (k : Nat) (hk : k < xs.length) => Tr.endOf_yes (Tr.has_iff.2 ⟨hok, Int.natCast_nonneg k, Int.ofNat_lt.2 hk⟩))
    have HD := Lib.hid (fun k hk => (Tr.ok_at hok (k := k) hk).2.1)
    have HF := Lib.hid hF
    obtain ⟨i0, hi, hz0, hz1, hz2⟩ := info_parts info_intZ
    have Hi := Lib.hid hi
    have Hok := Lib.hid hok
    clear hi hok hF hpl
    obtain ⟨ad, rfl, had⟩ := H.out.2.1 (by omega)
    go_enter Try.func98, Try.ntmps98
    go_wp2_with fail
    refine (implTreeOk_any _ _ _ xs _ H.out hn hnc).mono ?_
    rintro e w1 ⟨rfl, hb⟩
    have HB := Lib.hid hb
    have H1 := Lib.hid (H.out.to_below hb)
    clear hb
    rw [Hok.out]
    obtain ⟨m, hm⟩ : ∃ m, m = n := ⟨_, rfl⟩
    have hmb : m ≤ 24 := by omega
    go_wp2_with (at_make; go_loud (refine wpList_make_full _ rfl _ _ 25 rfl w1.heap.size 3 i0 (.int .i64 0) 1 Try.underlying25 Hi.out hz0 hz1 _ _ _ _ n rfl rfl rfl rfl (by rw [hz2]; omega) (by unfold maxLen; omega) (Nat.le_refl _) ?_); intro w2 hown2 hgrow2)
    have hb2 : Below w1.heap.size w1 w2 := (Below.refl _ w1).grown hgrow2 (Nat.le_refl _) (fun _ h => by cases h)
    rw [made_zeros 0 n, show List.replicate n (0 : Int) = Zs.part F 0 by rw [Zs.part_zero, HFl.out]] at hown2
    have HO2 := Lib.hid hown2
    have HB2 := Lib.hid hb2
    clear hown2 hgrow2 hb2 hm hmb
    go_wp2
    go_loopw [14] (fun kv wr => ∃ k : Nat, k ≤ n ∧ kv = .int .i64 k ∧ wr.ownsRow w1.heap.size 3 1 (.slice (some ⟨w1.heap.size, 0, none⟩) n n) n (ints (Zs.part F k)) ∧ Below w1.heap.size w1 wr) (fun k _ => n - (intOf k).toNat)
    case atStart => exact ⟨0, Nat.zero_le _, rfl, HO2.out, HB2.out⟩
    case round =>
      clear HO2 HB2
      obtain ⟨k, hk, rfl, hown, hB⟩ := hrel
      have Ho := Lib.hid hown
      have HB2 := Lib.hid hB
      clear hown hB
      have hsz := HB2.out.size
      by_cases hlt : k < n
      · have hlx : k < xs.length := by rw [HL.out]; exact hlt
        obtain ⟨hl, hd⟩ := (H1.out.below HB2.out).here hlt
        have hs := HS.out k hlx
        have he := HE.out k hlx
        have hy := HY.out k hlx
        have hdd := HD.out k hlx
        have b0 : (0 : Int) ≤ (k : Int) := by omega
        have b1 : (k : Int) < (n : Int) := by omega
        have hfa := HFa.out k hlx
        have hxl := HL.out
        have hy0 : (0 : Int) ≤ Tr.endOf xs (k : Int) ∧ Tr.endOf xs (k : Int) ≤ 24 := by rw [hy]; omega
        have a1 : IntKind.i64.wrap (Tr.endOf xs (k : Int) - 1) = Tr.endOf xs (k : Int) - 1 := Kit.w64 (by omega) (by omega)
        have a2 : IntKind.i64.wrap (Tr.endOf xs (k : Int) - 1 - Tr.d xs k) = Tr.endOf xs (k : Int) - 1 - Tr.d xs k := Kit.w64 (by omega) (by omega)
        have hgl := (Ho.out.lt w1.heap.size rfl).2
        have hne : (⟨w1.heap.size, k, none⟩ : Addr) ≠ ⟨wr.heap.size, 1, none⟩ := fun e => by injection e; omega
        have S0 := Lib.hid (show (wr.alloc (.cells #[.int .i64 (Tr.l xs k), .int .i64 (Tr.d xs k)] 71)).drew.cell? ⟨wr.heap.size, 1, none⟩ = some (.int .i64 (Tr.d xs k)) by simp)
        have Hx := Lib.hid ((((H1.out.below HB2.out).more HB2.out.size).to_below ((Below.refl _ wr).alloc (Nat.le_refl _) (.cells #[.int .i64 (Tr.l xs k), .int .i64 (Tr.d xs k)] 71))).drew)
        have HBx := Lib.hid ((HB2.out.alloc hsz (.cells #[.int .i64 (Tr.l xs k), .int .i64 (Tr.d xs k)] 71)).drew)
        have Hox := Lib.hid (show (wr.alloc (.cells #[.int .i64 (Tr.l xs k), .int .i64 (Tr.d xs k)] 71)).drew.ownsRow w1.heap.size 3 1 (.slice (some ⟨w1.heap.size, 0, none⟩) n n) n (ints (Zs.part F k)) from Ho.out.alloc _)
        have hxz : wr.heap.size < (wr.alloc (.cells #[.int .i64 (Tr.l xs k), .int .i64 (Tr.d xs k)] 71)).drew.heap.size := by simp [World.drew]
        have Hpl := Lib.hid (Zs.part_length F k (by rw [HFl.out]; exact hk))
        have Hs := Lib.hid hs
        clear hy hdd he hy0 hs
        go_wp2_with fail
        go_region_held3 (fun wq => wq.cell? ⟨wr.heap.size, 1, none⟩ = some (.int .i64 (Tr.d xs k))) (first | exact S0.out | exact (hb.cell hxz).trans S0.out | (refine (World.cell?_setCell_other _ _ _ _ hne).trans ?_; assumption)) (first | (go_at_call 101; refine (implEndOf_any _ _ _ xs _ _ Hx.out hn hnc).mono ?_; rintro e w' ⟨rfl, hb⟩; have hox3 := own_below Hox.out hb; have c3 := own_int hox3 (k := k) (by rw [Hpl.out, HFl.out]; exact hlt); have f3 := hox3.frozenAt k))
        have Ho3 := Lib.hid hox3
        have HB3 := Lib.hid (HBx.out.trans (hb.mono HBx.out.size))
        clear hox3 hb c3 f3
        go_wp2
        go_roundw
        case rel =>
          refine ⟨k + 1, by omega, by go_num, ?_, HB3.out.setCell (Nat.le_refl _) _⟩
          have := (Ho3.out.stored k (.int .i64 (Tr.endOf xs (k : Int) - 1 - Tr.d xs k))).1
          rw [ints_set, Hs.out, ← hfa, Zs.part_set F k (by rw [HFl.out]; exact hlt), hfa, ← Hs.out] at this
          exact this
        case measure => simp [intOf]; omega
      · obtain rfl : k = n := by omega
        go_wp2
        go_ret
        rw [show Zs.part F k = F by rw [← HFl.out]; exact Zs.part_all F] at Ho
        exact ⟨_, _, by rw [← HF.out, HFl.out]; rfl, by rw [← HF.out, HFl.out]; exact own_base Ho.out HB.out.size, HB.out.trans (HB2.out.mono HB.out.size)⟩

end Go.Proofs.Ytkccnlcghlkioaa
