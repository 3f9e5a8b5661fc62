/- Contracts (RdS). -/
import Derived.Test.YtemionefggiknaaDoorRd
import Derived.Test.YtemionefggiknaaDoorRes3
import Derived.Test.YtemionefggiknaaDoorMem2
import Derived.Test.YtemionefggiknaaDoorTxtS
import Derived.Test.YtemionefggiknaaDoorLabOfS
import Derived.Outline
namespace Go.Proofs.YtemionefggiknaaDoor
open Go.RowKit
set_option linter.unusedVariables false

theorem info_ndR : (Tryd.prog.info? 35).map (fun i => (i.zero, i.size, i.bytes)) = some (some (.agg #[.int .i64 0, .int .i64 0]), 2, 16) := by kernel_rfl

set_option maxHeartbeats 3200000 in
set_option maxRecDepth 100000 in
theorem specReadTree_any (s : ByteArray) (hs : s.size ≤ 1048576) (w : World) :
    Calls Tryd.prog 10 #[.string s] w (OwnNodesB 35 (Rd.read s) w) := by
  obtain ⟨i0, hi, hz0, hz1, hz2⟩ := info_parts info_ndR
  have Hi := Lib.hid hi
  clear hi
  have Ho := Lib.hid (World.ownsRow_lit (base := w.heap.size) (e := 35) (size := 2) w #[] 0 (Nat.le_refl _) (Nat.zero_le _) rfl)
  have HB := Lib.hid ((Below.refl w.heap.size w).alloc (Nat.le_refl _) (.cells #[] 35))
  go_enter Tryd.func10, Tryd.ntmps10
  go_wp2
  go_loopw [7, 4, 5, 6] (fun iv ov dv wv wr => ∃ (k : Nat) (X : Tr) (d : Int) (wd : ByteArray), k ≤ s.size + 1 ∧ iv = .int .i64 k ∧ dv = .int .i64 d ∧ wv = .string wd ∧ wr.ownsRow w.heap.size 35 2 ov X.length (Tr.cells X) ∧ ((k ≤ s.size ∧ Rd.st s k = (X, d, wd)) ∨ (k = s.size + 1 ∧ X = Rd.parse s)) ∧ Below w.heap.size w wr) (fun i _ _ _ _ => s.size + 1 - (intOf i).toNat)
  case atStart => exact ⟨0, [], 0, ⟨#[]⟩, Nat.zero_le _, rfl, rfl, rfl, Ho.out, .inl ⟨Nat.zero_le _, rfl⟩, HB.out⟩
  case round =>
    clear Ho HB
    obtain ⟨k, X, d, wd, hk, rfl, rfl, rfl, hown, hst, hB⟩ := hrel
    have Ho := Lib.hid hown
    have HB := Lib.hid hB
    clear hown hB
    obtain ⟨A', c', rfl⟩ := own_slice Ho.out
    rcases hst with ⟨hks, hst⟩ | ⟨hks, hX⟩
    · have hbd := Rd.st_bd s k hks
      rw [hst] at hbd
      simp only at hbd
      obtain ⟨hb1, hb2, hb3⟩ := hbd
      by_cases hlt : k < s.size
      · have hk1 : (k : Int) < (s.size : Int) := by omega
        have hk2 : (k : Int) ≤ (s.size : Int) := by omega
        have bd := s[k].toNat_lt
        by_cases h40 : s[k].toNat = 40
        · have e1 : ((s[k].toNat : Int) == 40) = true := by simp [h40]
          have e2 : ((s[k].toNat : Int) == 41) = false := by simp [h40]
          have a1 : IntKind.i64.wrap (d + 1) = d + 1 := Kit.w64 (by omega) (by omega)
          rcases hwd : wd.toList.isEmpty with _ | _
          · have f1 : wd.toList.isEmpty = false := hwd
            have Hst := Lib.hid (Rd.st_open hst hlt h40)
            go_wp2_with fail
            refine (specLabelOf_any wd _).mono ?_
            rintro e w4 ⟨rfl, hb⟩
            have Ho := Lib.hid (own_below Ho.out hb)
            have HB := Lib.hid (HB.out.trans (hb.mono HB.out.size))
            clear hb
            have hsx := HB.out.size
            go_wp2_with (at_builtin; go_loud (refine append_node w4 rfl _ _ 25 rfl w.heap.size 35 i0 Tryd.underlying25 Hi.out hz0 hz1 hz2 (.slice A' X.length c') X.length X rfl Ho.out rfl (Lab.of wd) d rfl (by omega) hsx ?_); intro v' w6 hown hgrow)
            have hb6 := Kit.below_own HB.out Ho.out hgrow
            go_wp2
            go_roundw
            case rel => exact ⟨k + 1, (X ++ [(Lab.of wd, d)]), d + 1, ⟨#[]⟩, by omega, by go_num, by go_num, rfl, hown, by (first | exact .inl ⟨by omega, by rw [Hst.out, Rd.flush_yes f1]⟩ | exact .inr ⟨by omega, by rw [Hst.out, Rd.flush_yes f1]⟩), hb6⟩
            case measure => simp [intOf]; omega
          · have f1 : wd.toList.isEmpty = true := hwd
            have Hst := Lib.hid (Rd.st_open hst hlt h40)
            go_wp2
            go_roundw
            case rel => exact ⟨k + 1, X, d + 1, ⟨#[]⟩, by omega, by go_num, by go_num, rfl, Ho.out, by (first | exact .inl ⟨by omega, by rw [Hst.out, Rd.flush_no f1]⟩ | exact .inr ⟨by omega, by rw [Hst.out, Rd.flush_no f1]⟩), HB.out⟩
            case measure => simp [intOf]; omega
        · have e1 : ((s[k].toNat : Int) == 40) = false := beq_eq_false_iff_ne.2 (by omega)
          by_cases h41 : s[k].toNat = 41
          · have e2 : ((s[k].toNat : Int) == 41) = true := by simp [h41]
            have a1 : IntKind.i64.wrap (d - 1) = d - 1 := Kit.w64 (by omega) (by omega)
            rcases hwd : wd.toList.isEmpty with _ | _
            · have f1 : wd.toList.isEmpty = false := hwd
              have Hst := Lib.hid (Rd.st_close hst hlt h41)
              go_wp2_with fail
              refine (specLabelOf_any wd _).mono ?_
              rintro e w4 ⟨rfl, hb⟩
              have Ho := Lib.hid (own_below Ho.out hb)
              have HB := Lib.hid (HB.out.trans (hb.mono HB.out.size))
              clear hb
              have hsx := HB.out.size
              go_wp2_with (at_builtin; go_loud (refine append_node w4 rfl _ _ 25 rfl w.heap.size 35 i0 Tryd.underlying25 Hi.out hz0 hz1 hz2 (.slice A' X.length c') X.length X rfl Ho.out rfl (Lab.of wd) d rfl (by omega) hsx ?_); intro v' w6 hown hgrow)
              have hb6 := Kit.below_own HB.out Ho.out hgrow
              go_wp2
              go_roundw
              case rel => exact ⟨k + 1, (X ++ [(Lab.of wd, d)]), d - 1, ⟨#[]⟩, by omega, by go_num, by go_num, rfl, hown, by (first | exact .inl ⟨by omega, by rw [Hst.out, Rd.flush_yes f1]⟩ | exact .inr ⟨by omega, by rw [Hst.out, Rd.flush_yes f1]⟩), hb6⟩
              case measure => simp [intOf]; omega
            · have f1 : wd.toList.isEmpty = true := hwd
              have Hst := Lib.hid (Rd.st_close hst hlt h41)
              go_wp2
              go_roundw
              case rel => exact ⟨k + 1, X, d - 1, ⟨#[]⟩, by omega, by go_num, by go_num, rfl, Ho.out, by (first | exact .inl ⟨by omega, by rw [Hst.out, Rd.flush_no f1]⟩ | exact .inr ⟨by omega, by rw [Hst.out, Rd.flush_no f1]⟩), HB.out⟩
              case measure => simp [intOf]; omega
          · have e2 : ((s[k].toNat : Int) == 41) = false := beq_eq_false_iff_ne.2 (by omega)
            by_cases h32 : s[k].toNat = 32
            · have e3 : ((s[k].toNat : Int) == 32) = true := by simp [h32]
              rcases hwd : wd.toList.isEmpty with _ | _
              · have f1 : wd.toList.isEmpty = false := hwd
                have Hst := Lib.hid (Rd.st_blank hst hlt h32)
                go_wp2_with fail
                refine (specLabelOf_any wd _).mono ?_
                rintro e w4 ⟨rfl, hb⟩
                have Ho := Lib.hid (own_below Ho.out hb)
                have HB := Lib.hid (HB.out.trans (hb.mono HB.out.size))
                clear hb
                have hsx := HB.out.size
                go_wp2_with (at_builtin; go_loud (refine append_node w4 rfl _ _ 25 rfl w.heap.size 35 i0 Tryd.underlying25 Hi.out hz0 hz1 hz2 (.slice A' X.length c') X.length X rfl Ho.out rfl (Lab.of wd) d rfl (by omega) hsx ?_); intro v' w6 hown hgrow)
                have hb6 := Kit.below_own HB.out Ho.out hgrow
                go_wp2
                go_roundw
                case rel => exact ⟨k + 1, (X ++ [(Lab.of wd, d)]), d, ⟨#[]⟩, by omega, by go_num, by go_num, rfl, hown, by (first | exact .inl ⟨by omega, by rw [Hst.out, Rd.flush_yes f1]⟩ | exact .inr ⟨by omega, by rw [Hst.out, Rd.flush_yes f1]⟩), hb6⟩
                case measure => simp [intOf]; omega
              · have f1 : wd.toList.isEmpty = true := hwd
                have Hst := Lib.hid (Rd.st_blank hst hlt h32)
                go_wp2
                go_roundw
                case rel => exact ⟨k + 1, X, d, ⟨#[]⟩, by omega, by go_num, by go_num, rfl, Ho.out, by (first | exact .inl ⟨by omega, by rw [Hst.out, Rd.flush_no f1]⟩ | exact .inr ⟨by omega, by rw [Hst.out, Rd.flush_no f1]⟩), HB.out⟩
                case measure => simp [intOf]; omega
            · have e3 : ((s[k].toNat : Int) == 32) = false := beq_eq_false_iff_ne.2 (by omega)
              have g1 : ((s[k].toNat : Int) != 40) = true := by rw [bne, e1]; rfl
              have g2 : ((s[k].toNat : Int) != 41) = true := by rw [bne, e2]; rfl
              have g3 : ((s[k].toNat : Int) != 32) = true := by rw [bne, e3]; rfl
              have Hst := Lib.hid (Rd.st_word hst hlt h40 h41 h32)
              have a1 : IntKind.i64.wrap ((k : Int) + 1) = (k : Int) + 1 := Kit.w64 (by omega) (by omega)
              have zx : (s.extract k (k + 1)).size = 1 := by rw [ByteArray.size_extract]; omega
              have y1 : ¬ 9223372036854775807 < wd.size + (s.extract k (k + 1)).size := by omega
              go_wp2
              go_roundw
              case rel => exact ⟨k + 1, X, d, wd ++ s.extract k (k + 1), by omega, by go_num, rfl, rfl, Ho.out, .inl ⟨by omega, Hst.out⟩, HB.out⟩
              case measure => simp [intOf]; omega
      · have hke : k = s.size := by omega
        have hk3 : ¬ (k : Int) < (s.size : Int) := by omega
        have hk2 : (k : Int) ≤ (s.size : Int) := by omega
        have hst' : Rd.parse s = Rd.flush (X, d, wd) := by unfold Rd.parse; rw [← hke, hst]
        rcases hwd : wd.toList.isEmpty with _ | _
        · have f1 : wd.toList.isEmpty = false := hwd
          have Hst := Lib.hid (hst')
          go_wp2_with fail
          refine (specLabelOf_any wd _).mono ?_
          rintro e w4 ⟨rfl, hb⟩
          have Ho := Lib.hid (own_below Ho.out hb)
          have HB := Lib.hid (HB.out.trans (hb.mono HB.out.size))
          clear hb
          have hsx := HB.out.size
          go_wp2_with (at_builtin; go_loud (refine append_node w4 rfl _ _ 25 rfl w.heap.size 35 i0 Tryd.underlying25 Hi.out hz0 hz1 hz2 (.slice A' X.length c') X.length X rfl Ho.out rfl (Lab.of wd) d rfl (by omega) hsx ?_); intro v' w6 hown hgrow)
          have hb6 := Kit.below_own HB.out Ho.out hgrow
          go_wp2
          go_roundw
          case rel => exact ⟨k + 1, (X ++ [(Lab.of wd, d)]), d, ⟨#[]⟩, by omega, by go_num, by go_num, rfl, hown, by (first | exact .inl ⟨by omega, by rw [Hst.out, Rd.flush_yes f1]⟩ | exact .inr ⟨by omega, by rw [Hst.out, Rd.flush_yes f1]⟩), hb6⟩
          case measure => simp [intOf]; omega
        · have f1 : wd.toList.isEmpty = true := hwd
          have Hst := Lib.hid (hst')
          go_wp2
          go_roundw
          case rel => exact ⟨k + 1, X, d, ⟨#[]⟩, by omega, by go_num, by go_num, rfl, Ho.out, by (first | exact .inl ⟨by omega, by rw [Hst.out, Rd.flush_no f1]⟩ | exact .inr ⟨by omega, by rw [Hst.out, Rd.flush_no f1]⟩), HB.out⟩
          case measure => simp [intOf]; omega
    · have hk4 : ¬ (k : Int) ≤ (s.size : Int) := by omega
      have hXn : X.length ≤ 1048576 := by rw [hX]; exact Nat.le_trans (Rd.parse_len s) hs
      have Hn := Lib.hid (NdIn.of_own Ho.out)
      rcases hok : Tr.ok X with _ | _
      · have Hres := Lib.hid (Rd.read_no1 hX.symm hok)
        have Hok := Lib.hid hok
        clear hok hX
        go_wp2_with fail
        refine (specTreeOk_any _ _ _ X _ Hn.out hXn).mono ?_
        rintro e w4 ⟨rfl, hd⟩
        have HB := Lib.hid (Drawn.below HB.out hd)
        clear hd
        rw [Hok.out]
        have hsx := HB.out.size
        go_wp2
        go_ret2
        exact ⟨_, _, by rw [Hres.out]; rfl, by rw [Hres.out]; exact World.ownsRow_lit w4 #[] 0 hsx (Nat.zero_le _) rfl, HB.out.alloc hsx _⟩
      · have Hok := Lib.hid hok
        by_cases ht : Tr.txt X = s
        · have Hres := Lib.hid (Rd.read_yes hX.symm hok ht)
          have f1 : ((Tr.txt X).toList == s.toList) = true := by rw [ba_eq]; simpa using ht
          clear hok hX ht
          go_wp2_with fail
          refine (specTreeOk_any _ _ _ X _ Hn.out hXn).mono ?_
          rintro e w4 ⟨rfl, hd⟩
          have HB := Lib.hid (Drawn.below HB.out hd)
          have Ho := Lib.hid (own_drawn Ho.out hd)
          clear hd
          have Hn := Lib.hid (NdIn.of_own Ho.out)
          rw [Hok.out]
          go_wp2_with fail
          refine (specTreeText_any _ _ _ X _ Hn.out hXn).mono ?_
          rintro e w5 ⟨rfl, hb⟩
          have Ho := Lib.hid (own_below Ho.out hb)
          have HB := Lib.hid (HB.out.trans (hb.mono HB.out.size))
          clear hb
          go_wp2
          go_ret2
          exact ⟨_, _, by rw [Hres.out]; rfl, by rw [Hres.out]; exact Ho.out, HB.out⟩
        · have Hres := Lib.hid (Rd.read_no2 hX.symm ht)
          have f1 : ((Tr.txt X).toList == s.toList) = false := by rw [ba_eq]; simpa using ht
          clear hok hX ht
          go_wp2_with fail
          refine (specTreeOk_any _ _ _ X _ Hn.out hXn).mono ?_
          rintro e w4 ⟨rfl, hd⟩
          have HB := Lib.hid (Drawn.below HB.out hd)
          have Ho := Lib.hid (own_drawn Ho.out hd)
          clear hd
          have Hn := Lib.hid (NdIn.of_own Ho.out)
          rw [Hok.out]
          go_wp2_with fail
          refine (specTreeText_any _ _ _ X _ Hn.out hXn).mono ?_
          rintro e w5 ⟨rfl, hb⟩
          have Ho := Lib.hid (own_below Ho.out hb)
          have HB := Lib.hid (HB.out.trans (hb.mono HB.out.size))
          clear hb
          have hsx := HB.out.size
          go_wp2
          go_ret2
          exact ⟨_, _, by rw [Hres.out]; rfl, by rw [Hres.out]; exact World.ownsRow_lit w5 #[] 0 hsx (Nat.zero_le _) rfl, HB.out.alloc hsx _⟩

end Go.Proofs.YtemionefggiknaaDoor
