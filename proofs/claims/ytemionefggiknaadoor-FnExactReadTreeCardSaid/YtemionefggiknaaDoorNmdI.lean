/- Contracts (NmdI). -/
import Derived.Test.YtemionefggiknaaDoorAddI
import Derived.Test.YtemionefggiknaaDoorTxt2
import Derived.Outline
namespace Go.Proofs.YtemionefggiknaaDoor
open Go.RowKit
set_option linter.unusedVariables false

/-- the answer of the reader's loop -/
def NamedPost (s : ByteArray) (w : World) (e : Ending) (w' : World) : Prop :=
  ∃ L : Tr, (L = Rd.parse s ∨ (24 < L.length ∧ 24 < (Rd.parse s).length)) ∧ L.length ≤ s.size ∧ OwnAt w.heap.size 35 L w e w'

set_option maxHeartbeats 3200000 in
set_option maxRecDepth 100000 in
theorem namedNodes_any (s : ByteArray) (hs : s.size ≤ 1048576) (w : World) (ht : HasNames w) :
    Calls Tryd.prog 23 #[.string s] w (NamedPost s w) := by
  have HN := Lib.hid ht
  clear ht
  have HB := Lib.hid ((Below.refl w.heap.size w).alloc (Nat.le_refl _) (.stringIter s 0))
  have Ho := Lib.hid (own_nil (w := w.alloc (.stringIter s 0)) (base := w.heap.size + 1) (size := 2) (e := 35))
  have Hi := Lib.hid (World.iter_heap w s 0)
  go_enter Tryd.func23, Tryd.ntmps23
  go_wp2
  go_loopw [3, 4, 5] (fun lv av dv wr => ∃ (p a : Nat) (X : Tr) (d : Int), a ≤ p ∧ p ≤ s.size ∧ (∃ A c, lv = .slice A X.length c) ∧ av = .int .i64 a ∧ dv = .int .i64 d ∧ wr.ownsRow (w.heap.size + 1) 35 2 lv X.length (Tr.cells X) ∧ Rd.st s p = (X, d, s.extract a p) ∧ wr.heap[w.heap.size]? = some (.stringIter s p) ∧ Below w.heap.size w wr ∧ X.length ≤ 24) (fun _ _ _ wr => s.size - wr.iterPos w.heap.size)
  case atStart => exact ⟨0, 0, [], 0, Nat.le_refl _, Nat.zero_le _, ⟨none, 0, rfl⟩, rfl, rfl, Ho.out, by rw [Rd.ext_nil]; rfl, Hi.out, HB.out, Nat.zero_le _⟩
  case round =>
    clear Ho HB Hi
    obtain ⟨p, a, X, d, hap, hps, ⟨A, c, rfl⟩, rfl, rfl, ho, hst, hit, hB, hXl⟩ := hrel
    have Ho := Lib.hid ho
    have HB := Lib.hid hB
    have Hit := Lib.hid hit
    have hXl2 : X.length ≤ 1048576 := by omega
    have hK : w.heap.size < wr.heap.size := (Array.getElem?_eq_some_iff.1 hit).1
    clear ho hB
    have hbd := Rd.st_bd s p hps
    rw [hst] at hbd
    simp only at hbd
    obtain ⟨_, hd1, hd2⟩ := hbd
    by_cases hp : p < s.size
    · have q0 : (0 : Int) ≤ (a : Int) := by omega
      have q1 : (a : Int) ≤ (p : Int) := by omega
      have q2 : (p : Int) ≤ (s.size : Int) := by omega
      by_cases hasc : s[p].toNat < 128
      · have hnx : ∀ ty, (Instr.next (.pointer (some ⟨w.heap.size, 0, none⟩)) true ty).run Tryd.prog wr = _ := fun ty => Lib.run_next_ascii_at wr w.heap.size s p ty hit hp hasc
        have Ho2 := Lib.hid (own_iter Ho.out (Nat.lt_succ_self _) s (p + 1))
        have HB2 := Lib.hid (Lib.below_iterAt HB.out (k := w.heap.size) (Nat.le_refl _) s (p + 1))
        have Hit2 := Lib.hid (Lib.iterAt_heap wr w.heap.size s p (p + 1) hit)
        have HN2 := Lib.hid (HN.out.below HB2.out)
        have hb1 : w.heap.size + 1 ≤ (wr.iterAt w.heap.size s (p + 1)).heap.size := by rw [Lib.iterAt_size]; omega
        have a0 : IntKind.i64.wrap ((p : Int) + 1) = (p : Int) + 1 := Kit.w64 (by omega) (by omega)
        clear hit
        by_cases h40 : s[p].toNat = 40
        · have e1 : ((s[p].toNat : Int) == 40) = true := by simp [h40]
          have g40 : ((s[p].toNat : Int) != 40) = false := by rw [bne, e1]; rfl
          have a1 : IntKind.i64.wrap (d + 1) = d + 1 := Kit.w64 (by omega) (by omega)
          have Hst := Lib.hid (Rd.st_open hst hp h40)
          have HX := Lib.hid hst
          clear hst
          go_wp2_with (go_at_call 34; refine (addNamed_any (w.heap.size + 1) A c X (s.extract a p) d _ Ho2.out hXl2 hb1 HN2.out).mono ?_)
          rintro e w4 ⟨A', c', rfl, ho4, hb4⟩
          have Ho4 := Lib.hid ho4
          have hs4 := hb4.size
          have HB4 := Lib.hid (HB2.out.trans (hb4.mono (Nat.le_succ _)))
          have hit4 := Lib.hid ((hb4.block w.heap.size (Nat.lt_succ_self _)).trans Hit2.out)
          clear ho4 hb4
          have hlen := Lib.hid (show (Rd.st s (p + 1)).1 = Rd.flush (X, d, s.extract a p) by rw [Hst.out])
          by_cases hbig : 24 < (Rd.flush (X, d, s.extract a p)).length
          · have g1 : decide ((24 : Int) < ((Rd.flush (X, d, s.extract a p)).length : Int)) = true := decide_eq_true (by omega)
            go_wp2
            go_ret
            refine ⟨Rd.flush (X, d, s.extract a p), .inr ⟨hbig, ?_⟩, ?_, A', c', rfl, own_base Ho4.out (Nat.le_succ _), HB4.out⟩
            · have := Rd.parse_ge s (p + 1) (by omega)
              rw [hlen.out] at this
              omega
            · have := (Rd.st_bd s (p + 1) (by omega)).1
              rw [hlen.out] at this
              omega
          · have g1 : decide ((24 : Int) < ((Rd.flush (X, d, s.extract a p)).length : Int)) = false := decide_eq_false (by omega)
            have hle24 := Lib.hid (show (Rd.flush (X, d, s.extract a p)).length ≤ 24 by omega)
            clear hbig
            go_wp2
            go_roundw
            case rel => exact ⟨p + 1, p + 1, Rd.flush (X, d, s.extract a p), d + 1, Nat.le_refl _, by omega, ⟨A', c', rfl⟩, by go_num, by go_num, Ho4.out, by rw [Hst.out, Rd.ext_nil], hit4.out, HB4.out, hle24.out⟩
            case measure =>
              have e1 := hit4.out
              have e2 := Hit.out
              simp only [World.iterPos, e1, e2]
              omega
        · have e1 : ((s[p].toNat : Int) == 40) = false := beq_eq_false_iff_ne.2 (by omega)
          have g40 : ((s[p].toNat : Int) != 40) = true := by rw [bne, e1]; rfl
          by_cases h41 : s[p].toNat = 41
          · have e2 : ((s[p].toNat : Int) == 41) = true := by simp [h41]
            have g41 : ((s[p].toNat : Int) != 41) = false := by rw [bne, e2]; rfl
            have a1 : IntKind.i64.wrap (d - 1) = d - 1 := Kit.w64 (by omega) (by omega)
            have Hst := Lib.hid (Rd.st_close hst hp h41)
            have HX := Lib.hid hst
            clear hst
            go_wp2_with (go_at_call 34; refine (addNamed_any (w.heap.size + 1) A c X (s.extract a p) d _ Ho2.out hXl2 hb1 HN2.out).mono ?_)
            rintro e w4 ⟨A', c', rfl, ho4, hb4⟩
            have Ho4 := Lib.hid ho4
            have hs4 := hb4.size
            have HB4 := Lib.hid (HB2.out.trans (hb4.mono (Nat.le_succ _)))
            have hit4 := Lib.hid ((hb4.block w.heap.size (Nat.lt_succ_self _)).trans Hit2.out)
            clear ho4 hb4
            have hlen := Lib.hid (show (Rd.st s (p + 1)).1 = Rd.flush (X, d, s.extract a p) by rw [Hst.out])
            by_cases hbig : 24 < (Rd.flush (X, d, s.extract a p)).length
            · have g1 : decide ((24 : Int) < ((Rd.flush (X, d, s.extract a p)).length : Int)) = true := decide_eq_true (by omega)
              go_wp2
              go_ret
              refine ⟨Rd.flush (X, d, s.extract a p), .inr ⟨hbig, ?_⟩, ?_, A', c', rfl, own_base Ho4.out (Nat.le_succ _), HB4.out⟩
              · have := Rd.parse_ge s (p + 1) (by omega)
                rw [hlen.out] at this
                omega
              · have := (Rd.st_bd s (p + 1) (by omega)).1
                rw [hlen.out] at this
                omega
            · have g1 : decide ((24 : Int) < ((Rd.flush (X, d, s.extract a p)).length : Int)) = false := decide_eq_false (by omega)
              have hle24 := Lib.hid (show (Rd.flush (X, d, s.extract a p)).length ≤ 24 by omega)
              clear hbig
              go_wp2
              go_roundw
              case rel => exact ⟨p + 1, p + 1, Rd.flush (X, d, s.extract a p), d - 1, Nat.le_refl _, by omega, ⟨A', c', rfl⟩, by go_num, by go_num, Ho4.out, by rw [Hst.out, Rd.ext_nil], hit4.out, HB4.out, hle24.out⟩
              case measure =>
                have e1 := hit4.out
                have e2 := Hit.out
                simp only [World.iterPos, e1, e2]
                omega
          · have e2 : ((s[p].toNat : Int) == 41) = false := beq_eq_false_iff_ne.2 (by omega)
            have g41 : ((s[p].toNat : Int) != 41) = true := by rw [bne, e2]; rfl
            by_cases h32 : s[p].toNat = 32
            · have e3 : ((s[p].toNat : Int) == 32) = true := by simp [h32]
              have g32 : ((s[p].toNat : Int) != 32) = false := by rw [bne, e3]; rfl
              have Hst := Lib.hid (Rd.st_blank hst hp h32)
              have HX := Lib.hid hst
              clear hst
              go_wp2_with (go_at_call 34; refine (addNamed_any (w.heap.size + 1) A c X (s.extract a p) d _ Ho2.out hXl2 hb1 HN2.out).mono ?_)
              rintro e w4 ⟨A', c', rfl, ho4, hb4⟩
              have Ho4 := Lib.hid ho4
              have hs4 := hb4.size
              have HB4 := Lib.hid (HB2.out.trans (hb4.mono (Nat.le_succ _)))
              have hit4 := Lib.hid ((hb4.block w.heap.size (Nat.lt_succ_self _)).trans Hit2.out)
              clear ho4 hb4
              have hlen := Lib.hid (show (Rd.st s (p + 1)).1 = Rd.flush (X, d, s.extract a p) by rw [Hst.out])
              by_cases hbig : 24 < (Rd.flush (X, d, s.extract a p)).length
              · have g1 : decide ((24 : Int) < ((Rd.flush (X, d, s.extract a p)).length : Int)) = true := decide_eq_true (by omega)
                go_wp2
                go_ret
                refine ⟨Rd.flush (X, d, s.extract a p), .inr ⟨hbig, ?_⟩, ?_, A', c', rfl, own_base Ho4.out (Nat.le_succ _), HB4.out⟩
                · have := Rd.parse_ge s (p + 1) (by omega)
                  rw [hlen.out] at this
                  omega
                · have := (Rd.st_bd s (p + 1) (by omega)).1
                  rw [hlen.out] at this
                  omega
              · have g1 : decide ((24 : Int) < ((Rd.flush (X, d, s.extract a p)).length : Int)) = false := decide_eq_false (by omega)
                have hle24 := Lib.hid (show (Rd.flush (X, d, s.extract a p)).length ≤ 24 by omega)
                clear hbig
                go_wp2
                go_roundw
                case rel => exact ⟨p + 1, p + 1, Rd.flush (X, d, s.extract a p), d, Nat.le_refl _, by omega, ⟨A', c', rfl⟩, by go_num, by go_num, Ho4.out, by rw [Hst.out, Rd.ext_nil], hit4.out, HB4.out, hle24.out⟩
                case measure =>
                  have e1 := hit4.out
                  have e2 := Hit.out
                  simp only [World.iterPos, e1, e2]
                  omega
            · have e3 : ((s[p].toNat : Int) == 32) = false := beq_eq_false_iff_ne.2 (by omega)
              have g32 : ((s[p].toNat : Int) != 32) = true := by rw [bne, e3]; rfl
              have Hst := Lib.hid (Rd.st_word hst hp h40 h41 h32)
              clear hst
              go_wp2
              go_roundw
              case rel => exact ⟨p + 1, a, X, d, by omega, by omega, ⟨A, c, rfl⟩, rfl, rfl, Ho2.out, by rw [Hst.out, Rd.ext_snoc hap], Hit2.out, HB2.out, hXl⟩
              case measure =>
                have e1 := Hit2.out
                have e2 := Hit.out
                simp only [World.iterPos, e1, e2]
                omega
      · have hhi : 128 ≤ s[p].toNat := by omega
        obtain ⟨w1, w2, w3⟩ := Rd.rune_bytes s p hp hhi
        have hval := (decode_high s p hp hhi).1
        have Hst := Lib.hid (Rd.st_skip hst hap _ w2 w3)
        clear w3 hst
        obtain ⟨r, hr⟩ : ∃ r, r = (Utf8.decode s p).1 := ⟨_, rfl⟩
        obtain ⟨m, hm⟩ : ∃ m, m = (Utf8.decode s p).2 := ⟨_, rfl⟩
        have hnx : ∀ ty, (Instr.next (.pointer (some ⟨w.heap.size, 0, none⟩)) true ty).run Tryd.prog wr = .ok (.tuple #[.bool true, .int .i64 p, .int .i32 r]) (wr.iterAt w.heap.size s (p + m)) := fun ty => by rw [hr, hm]; exact Lib.run_next_any_at wr w.heap.size s p ty hit hp
        rw [← hm] at Hst w1 w2
        rw [← hr] at hval
        clear hr hm
        have g40 : ((r : Int) != 40) = true := by rw [bne, show ((r : Int) == 40) = false from beq_eq_false_iff_ne.2 (by omega)]; rfl
        have g41 : ((r : Int) != 41) = true := by rw [bne, show ((r : Int) == 41) = false from beq_eq_false_iff_ne.2 (by omega)]; rfl
        have g32 : ((r : Int) != 32) = true := by rw [bne, show ((r : Int) == 32) = false from beq_eq_false_iff_ne.2 (by omega)]; rfl
        have Ho2 := Lib.hid (own_iter Ho.out (Nat.lt_succ_self _) s (p + m))
        have HB2 := Lib.hid (Lib.below_iterAt HB.out (k := w.heap.size) (Nat.le_refl _) s (p + m))
        have Hit2 := Lib.hid (Lib.iterAt_heap wr w.heap.size s p (p + m) hit)
        clear hit
        go_wp2
        go_roundw
        case rel => exact ⟨p + m, a, X, d, by omega, by omega, ⟨A, c, rfl⟩, rfl, rfl, Ho2.out, Hst.out, Hit2.out, HB2.out, hXl⟩
        case measure =>
          have e1 := Hit2.out
          have e2 := Hit.out
          simp only [World.iterPos, e1, e2]
          omega
    · obtain rfl : p = s.size := by omega
      have hnx : ∀ ty, (Instr.next (.pointer (some ⟨w.heap.size, 0, none⟩)) true ty).run Tryd.prog wr = _ := fun ty => Lib.run_next_end_at wr w.heap.size s s.size ty hit hp
      have q0 : (0 : Int) ≤ (a : Int) := by omega
      have q1 : (a : Int) ≤ (s.size : Int) := by omega
      have hb1 : w.heap.size + 1 ≤ wr.heap.size := by omega
      have HNr := Lib.hid (HN.out.below HB.out)
      have Hp := Lib.hid (show Rd.flush (X, d, s.extract a s.size) = Rd.parse s by unfold Rd.parse; rw [hst])
      clear hit hst
      go_wp2_with (go_at_call 34; refine (addNamed_any (w.heap.size + 1) A c X (s.extract a s.size) d _ Ho.out hXl2 hb1 HNr.out).mono ?_)
      rintro e w4 ⟨A', c', rfl, ho4, hb4⟩
      have Ho4 := Lib.hid ho4
      have HB4 := Lib.hid (HB.out.trans (hb4.mono (Nat.le_succ _)))
      clear ho4 hb4
      go_wp2
      go_ret
      exact ⟨Rd.flush (X, d, s.extract a s.size), .inl Hp.out, by rw [Hp.out]; exact Rd.parse_len s, A', c', rfl, own_base Ho4.out (Nat.le_succ _), HB4.out⟩

end Go.Proofs.YtemionefggiknaaDoor
