/- Texts of one claim laid into one file, in build order: MoreS, AmL, MapsS, OfS, DelS, InsS, Fiv, McS. -/
import Derived.Test.YtnfjdlocmdgefaaEl2
import Derived.Test.YtnfjdlocmdgefaaEl3
import Derived.Test.YtnfjdlocmdgefaaEl4
import Derived.Test.YtnfjdlocmdgefaaEl5
import Derived.Deep.RegionHeld3
import Derived.Outline
import Derived.Test.YtnfjdlocmdgefaaRows
/- Contracts (MoreS). -/
namespace Go.Proofs.Ytnfjdlocmdgefaa
open Go.RowKit
set_option linter.unusedVariables false


theorem info_prM : (Try.prog.info? 77).map (fun i => (i.zero, i.size, i.bytes)) = some (some (.agg #[.int .i64 0, .int .i64 0]), 2, 16) := by kernel_rfl
theorem info_psM : (Try.prog.info? 36).map (fun i => (i.zero, i.size, i.bytes)) = some (some (.slice none 0 0), 1, 24) := by kernel_rfl
/-- the answer: rows of pairs of the call's own -/
def OwnRows (ms : List Tr) (w : World) (e : Ending) (w' : World) : Prop := ∃ v vs, e = .returned v ∧ RowsP w' w.heap.size v vs ms ∧ Below w.heap.size w w'
theorem row_src {w : World} {base n : Nat} {vs : List Value} {ad : Addr} {c : Nat} {e : TypeId} (h : w.ownsRow base e 1 (.slice (some ad) n c) n vs) : ∀ j u, vs[j]? = some u → w.cell? (ad.add j) = some u := by
  rcases h.2 with ⟨h1, _⟩ | ⟨g, cap, cur, hv, _, hg, hn, _, hs, ht⟩
  · cases h1
  · cases hv
    intro j u hj
    have hjn : j < n := by have := (List.getElem?_eq_some_iff.1 hj).1; rw [h.1] at this; omega
    rw [← ht, List.getElem?_take] at hj
    rw [if_pos (by omega)] at hj
    have ha : (⟨g, 0, none⟩ : Addr).add j = ⟨g, j, none⟩ := by simp only [Addr.add]; split <;> simp_all
    rw [ha]
    simpa [World.cell?, hg] using hj
theorem own_cells1 {w : World} {base k : Nat} {v : Value} {e : TypeId} {xs : List Value} (h : w.ownsRow base e 2 v (0 + k) ([] ++ xs)) : w.ownsRow base e 2 v k xs := by simpa using h
set_option maxHeartbeats 800000 in
set_option maxRecDepth 100000 in
theorem specMore_any {xs ys : Tr} {A A' : Option Addr} {n n' c c' : Nat} (hx : Tr.ok xs = true) (hy : Tr.ok ys = true) (hn : n = xs.length) (hn' : n' = ys.length) (hx5 : n ≤ 5) (hy5 : n' ≤ 5) (r : Nat) :
    ∀ (x k cm : Nat) (ad : Addr) (i : Int) (ms : Tr) (W : World), x + r = n → 1 ≤ x → i = (x : Int) → k ≤ x → 1 ≤ k → NdIn W W.heap.size A n xs → NdIn W W.heap.size A' n' ys → NdIn W W.heap.size (some ad) k ms →
    Calls Try.prog 44 #[.slice A n c, .slice A' n' c', .slice (some ad) k cm, .int .i64 i] W (OwnRows (Am.more xs ys r ms) W) := by
  obtain ⟨i0, hi, hz0, hz1, hz2⟩ := info_parts info_prM
  obtain ⟨i1, hj, hy0, hy1, hy2⟩ := info_parts info_psM
  have y1 : 1 ≤ n' := by rw [hn']; exact (Tr.len24 hy).1
  induction r with
  | zero =>
    intro x k cm ad i ms W hxr hx1 hi' hkx hk1 hA hB hM
    obtain rfl : x = n := by omega
    subst hi'
    have HM := Lib.hid hM
    have HL := Lib.hid hM.1
    clear hA hB hM hx hy hn hn'
    have c0 := Lib.hid (NdIn.cells_at (HM.out.to_below ((Below.refl _ _).alloc (Nat.le_refl _) (.cells #[] 77))))
    go_enter Try.func44, Try.ntmps44
    go_wp2_with (at_builtin; refine wpList_append_own (World.alloc W (.cells #[] 77)) rfl _ _ 36 rfl W.heap.size 77 i0 (.agg #[.int .i64 0, .int .i64 0]) 2 16 Try.underlying36 hi hz0 hz1 hz2 rfl (by omega) (.slice (some ⟨W.heap.size, 0, none⟩) 0 0) 0 [] rfl (World.ownsRow_lit W #[] 0 (Nat.le_refl _) (Nat.zero_le _) rfl) ad k cm (Tr.cells ms) rfl (by rw [Tr.cells_length, HL.out]) c0.out (Tr.cells_cell ms) (by unfold maxLen; omega) (by omega) (by simp) ?_; intro v' w1 hown1 hgrow1 hnil1; obtain ⟨A9, c9, rfl⟩ := own_slice hown1; have HO := Lib.hid hown1; have HG := Lib.hid hgrow1; clear hown1 hgrow1 hnil1)
    go_ret
    have ho : w1.ownsRow W.heap.size 77 2 (.slice A9 k c9) ms.length (Tr.cells ms) := by have := HO.out; rw [HL.out]; simpa using this
    have hb : Below W.heap.size W w1 := ((Below.refl W.heap.size W).alloc (Nat.le_refl _) _).grown HG.out (by simp) (fun k hk => by simp [Value.ownBlock] at hk; omega)
    exact ⟨_, _, rfl, RowsP.one hb.size ho, hb.alloc hb.size _⟩
  | succ r ih =>
    intro x k cm ad i ms W hxr hx1 hi' hkx hk1 hA hB hM
    subst hi'
    have e1 : ((xs.length - (r + 1) : Nat) : Int) = (x : Int) := by omega
    have LB : ∀ y, y ≤ n' → (Am.more xs ys r ms ++ Am.upto xs ys r ms y).length ≤ 3125 := fun y hy' => by
      have := (Am.upto_pre (xs := xs) (ys := ys) (r := r) (m := ms) y (ys.length - y)).length_le
      rw [show y + (ys.length - y) = ys.length by omega] at this
      have a := (Am.more_len (xs := xs) (ys := ys) (by omega) (r + 1) ms).2
      rw [Am.more_upto, List.length_append] at a
      have b : ys.length ^ (r + 1) ≤ 5 ^ (r + 1) := Nat.pow_le_pow_left (by omega) _
      have c : 5 ^ (r + 1) ≤ 5 ^ 5 := Nat.pow_le_pow_right (by decide) (by omega)
      have d : 5 ^ 5 = 3125 := by decide
      rw [List.length_append]
      omega
    have C1 := Lib.hid ((ih (x + 1) k cm ad ((x : Int) + 1) ms W (by omega) (by omega) (by omega) (by omega) hk1 hA hB hM).mono (R' := fun e w' => ∃ v vs, e = .returned v ∧ Hid (RowsP w' W.heap.size v vs (Am.more xs ys r ms ++ Am.upto xs ys r ms 1) ∧ Below W.heap.size W w')) (by
      rintro e w' ⟨v, vs, he, h, hb⟩
      rw [Am.upto_one, List.append_nil]
      exact ⟨v, vs, he, Lib.hid ⟨h, hb⟩⟩))
    have hxr2 : r + 1 ≤ n := by omega
    -- MapOk of a longer mapping, in a later world
    have MKf : ∀ (y : Nat) (wq : World) (v2 : Value), Below W.heap.size W wq → wq.ownsRow W.heap.size 77 2 v2 (k + 1) (Tr.cells ms ++ Tr.cells [((x : Int), (y : Int))]) →
        ∃ a2 c2, v2 = .slice (some a2) (k + 1) c2 ∧ NdIn wq wq.heap.size (some a2) (k + 1) (ms ++ [((x : Int), (y : Int))]) ∧ Calls Try.prog 14 #[.slice A n c, .slice A' n' c', .slice (some a2) (k + 1) c2] wq fun e w' => e = .returned (.bool (Mp.ok xs ys (ms ++ [((x : Int), (y : Int))]))) ∧ Hid (Below wq.heap.size wq w') := fun y wq v2 hb ho => by
      obtain ⟨A2, c2, rfl⟩ := own_slice ho
      obtain ⟨g2, rfl, _, _⟩ := own_form ho (by omega)
      rw [← Tr.cells_append] at ho
      have nd : NdIn wq wq.heap.size (some ⟨g2, 0, none⟩) (k + 1) (ms ++ [((x : Int), (y : Int))]) := NdIn.of_own ho
      exact ⟨_, _, rfl, nd, (specMapOk_any A A' (some ⟨g2, 0, none⟩) n n' (k + 1) c c' c2 xs ys _ wq (hA.to_below hb) (hB.to_below hb) nd (by omega) (by omega) (by omega)).mono fun e w' h => ⟨h.1, Lib.hid h.2.toBelow⟩⟩
    -- the call of itself, in a later world
    have MRf : ∀ (y : Nat) (wq : World) (a2 : Addr) (c2 : Nat), Below W.heap.size W wq → NdIn wq wq.heap.size (some a2) (k + 1) (ms ++ [((x : Int), (y : Int))]) →
        Calls Try.prog 44 #[.slice A n c, .slice A' n' c', .slice (some a2) (k + 1) c2, .int .i64 ((x : Int) + 1)] wq fun e w' => ∃ g3 m3 c3 vs3, e = .returned (.slice (some ⟨g3, 0, none⟩) m3 c3) ∧ Hid (vs3.length = m3 ∧ RowsP w' wq.heap.size (.slice (some ⟨g3, 0, none⟩) m3 c3) vs3 (Am.more xs ys r (ms ++ [((x : Int), (y : Int))])) ∧ Below wq.heap.size wq w' ∧ w'.ownsRow wq.heap.size 36 1 (.slice (some ⟨g3, 0, none⟩) m3 c3) m3 vs3) := fun y wq a2 c2 hb nd =>
      (ih (x + 1) (k + 1) c2 a2 ((x : Int) + 1) (ms ++ [((x : Int), (y : Int))]) wq (by omega) (by omega) (by omega) (by omega) (by omega) (hA.to_below hb) (hB.to_below hb) nd).mono (by
        rintro e w' ⟨v, vs, rfl, h, hb'⟩
        obtain ⟨A3, c3, rfl⟩ := own_slice h.1
        have l1 := (Am.more_len (xs := xs) (ys := ys) (by omega) r (ms ++ [((x : Int), (y : Int))])).1
        obtain ⟨g3, rfl, _, _⟩ := own_form h.1 (by have := h.2.1; omega)
        exact ⟨g3, vs.length, c3, vs, rfl, Lib.hid ⟨rfl, h, hb', h.1⟩⟩)
    have UPy : ∀ y : Nat, 1 ≤ y → Mp.ok xs ys (ms ++ [((x : Int), (y : Int))]) = true → Am.more xs ys r ms ++ Am.upto xs ys r ms (y + 1) = (Am.more xs ys r ms ++ Am.upto xs ys r ms y) ++ Am.more xs ys r (ms ++ [((x : Int), (y : Int))]) := fun y h1 hf => by
      rw [Am.upto_succ h1, e1, if_pos hf, ← List.append_assoc]
    have UPn : ∀ y : Nat, 1 ≤ y → Mp.ok xs ys (ms ++ [((x : Int), (y : Int))]) = false → Am.more xs ys r ms ++ Am.upto xs ys r ms (y + 1) = Am.more xs ys r ms ++ Am.upto xs ys r ms y := fun y h1 hf => by
      rw [Am.upto_succ h1, e1, if_neg (by rw [hf]; exact Bool.false_ne_true), List.append_nil]
    have EN : Am.more xs ys r ms ++ Am.upto xs ys r ms n' = Am.more xs ys (r + 1) ms := by rw [hn', Am.more_upto]
    have MKh := Lib.hid MKf
    have MRh := Lib.hid MRf
    have UPyh := Lib.hid UPy
    have UPnh := Lib.hid UPn
    have HEN := Lib.hid EN
    have HLB := Lib.hid LB
    have HM := Lib.hid hM
    have HL := Lib.hid hM.1
    clear MKf MRf UPy UPn EN LB ih hA hB hM e1 hx hy
    have q1 : ((x : Int) == (n : Int)) = false := by rw [beq_eq_false_iff_ne]; omega
    have w1 : IntKind.i64.wrap ((x : Int) + 1) = (x : Int) + 1 := Kit.w64 (by omega) (by omega)
    have x30 : x ≤ 5 := by omega
    clear hn hn' hxr hxr2
    go_enter Try.func44, Try.ntmps44
    go_wp2_with (go_at_call 44; refine C1.out.mono ?_; clear C1; rintro e w2 ⟨v, vs, rfl, hs0⟩)
    go_loopw [10, 9] (fun kv ov wr => ∃ (y : Nat) (us : List Value), 1 ≤ y ∧ y ≤ n' ∧ kv = .int .i64 (y : Int) ∧ Hid (RowsP wr W.heap.size ov us (Am.more xs ys r ms ++ Am.upto xs ys r ms y) ∧ Below W.heap.size W wr)) (fun kv _ _ => n' - (intOf kv).toNat)
    case atStart => exact ⟨1, vs, Nat.le_refl _, y1, rfl, hs0⟩
    case round =>
      obtain ⟨y, us, hy1', hy2', hkv, hs⟩ := hrel
      subst hkv
      clear hs0
      by_cases hlt : y < n'
      · have HR := Lib.hid hs.out.1
        have HB := Lib.hid hs.out.2
        have HA0 := Lib.hid (NdIn.cells_at ((HM.out.to_below HB.out).to_below ((Below.refl _ _).alloc (Nat.le_refl _) (.cells #[] 77))))
        have MKy := Lib.hid (fun wq v2 hb ho => MKh.out y wq v2 hb ho)
        cases hf : Mp.ok xs ys (ms ++ [((x : Int), (y : Int))]) with
        | false =>
          have HU := Lib.hid (UPnh.out y hy1' hf)
          rw [hf] at MKy
          clear hf UPyh UPnh MRh MKh hs
          go_wp2_with (first
            | (at_builtin; refine wpList_append_own (World.alloc wr (.cells #[] 77)) rfl _ _ 36 rfl wr.heap.size 77 i0 (.agg #[.int .i64 0, .int .i64 0]) 2 16 Try.underlying36 hi hz0 hz1 hz2 rfl (by omega) (.slice (some ⟨wr.heap.size, 0, none⟩) 0 0) 0 [] rfl (World.ownsRow_lit wr #[] 0 (Nat.le_refl _) (Nat.zero_le _) rfl) ad k cm (Tr.cells ms) rfl (by rw [Tr.cells_length, HL.out]) HA0.out (Tr.cells_cell ms) (by unfold maxLen; omega) (by omega) (by simp) ?_; intro v1 w1 hown1 hgrow1 hnil1; have hb1 : Below wr.heap.size wr w1 := ((Below.refl wr.heap.size wr).alloc (Nat.le_refl _) _).grown hgrow1 (by simp) (fun q hq => by simp [Value.ownBlock] at hq; omega); have ho1 := own_cells1 hown1; obtain ⟨A9, c9, rfl⟩ := own_slice ho1; have HO1 := Lib.hid ho1; have HB1 := Lib.hid hb1; clear hown1 hgrow1 hnil1 hb1 ho1)
            | (at_builtin; refine wpList_append_own _ rfl _ _ 36 rfl wr.heap.size 77 i0 (.agg #[.int .i64 0, .int .i64 0]) 2 16 Try.underlying36 hi hz0 hz1 hz2 rfl (by omega) (.slice A9 k c9) k (Tr.cells ms) rfl (HO1.out.alloc _) ⟨w1.heap.size, 0, none⟩ 1 1 (Tr.cells [((x : Int), (y : Int))]) rfl rfl (two_new _ _ _ _) (Tr.cells_cell _) (by unfold maxLen; omega) (by omega) (by have := HB1.out.size; simp; omega) ?_; intro v2 w2 hown2 hgrow2 hnil2; have hb2 : Below wr.heap.size wr w2 := (HB1.out.alloc HB1.out.size _).grown hgrow2 (by have := HB1.out.size; simp; omega) (fun q hq => (HO1.out.lt q hq).1); obtain ⟨a2, c2, rfl, nd2, mk2⟩ := MKy.out w2 v2 (HB.out.trans (hb2.mono HB.out.size)) (own_base hown2 HB.out.size); have HND := Lib.hid nd2; have HMK := Lib.hid mk2; have HB2 := Lib.hid hb2; clear hown2 hgrow2 hnil2 nd2 mk2 hb2)
            | (go_at_call 14; refine HMK.out.mono ?_; rintro e w5 ⟨rfl, hb5⟩))
          go_roundw
          case rel =>
            refine ⟨y + 1, us, by omega, by omega, by go_num, ?_⟩
            rw [HU.out]
            have b5 : Below wr.heap.size wr w5 := HB2.out.trans (hb5.out.mono HB2.out.size)
            exact Lib.hid ⟨HR.out.below b5, HB.out.trans (b5.mono HB.out.size)⟩
          case measure => simp [intOf]; omega
        | true =>
          have HU := Lib.hid (UPyh.out y hy1' hf)
          have HL3 := Lib.hid (show (Am.more xs ys r ms ++ Am.upto xs ys r ms y).length + (Am.more xs ys r (ms ++ [((x : Int), (y : Int))])).length ≤ 3125 by
            have := HLB.out (y + 1) hlt
            rw [HU.out] at this
            rwa [List.length_append] at this)
          have MRy := Lib.hid (fun wq a2 c2 hb nd => MRh.out y wq a2 c2 hb nd)
          rw [hf] at MKy
          clear hf UPyh UPnh MRh MKh hs
          go_wp2_with (first
            | (at_builtin; refine wpList_append_own (World.alloc wr (.cells #[] 77)) rfl _ _ 36 rfl wr.heap.size 77 i0 (.agg #[.int .i64 0, .int .i64 0]) 2 16 Try.underlying36 hi hz0 hz1 hz2 rfl (by omega) (.slice (some ⟨wr.heap.size, 0, none⟩) 0 0) 0 [] rfl (World.ownsRow_lit wr #[] 0 (Nat.le_refl _) (Nat.zero_le _) rfl) ad k cm (Tr.cells ms) rfl (by rw [Tr.cells_length, HL.out]) HA0.out (Tr.cells_cell ms) (by unfold maxLen; omega) (by omega) (by simp) ?_; intro v1 w1 hown1 hgrow1 hnil1; have hb1 : Below wr.heap.size wr w1 := ((Below.refl wr.heap.size wr).alloc (Nat.le_refl _) _).grown hgrow1 (by simp) (fun q hq => by simp [Value.ownBlock] at hq; omega); have ho1 := own_cells1 hown1; obtain ⟨A9, c9, rfl⟩ := own_slice ho1; have HO1 := Lib.hid ho1; have HB1 := Lib.hid hb1; clear hown1 hgrow1 hnil1 hb1 ho1)
            | (at_builtin; refine wpList_append_own _ rfl _ _ 36 rfl wr.heap.size 77 i0 (.agg #[.int .i64 0, .int .i64 0]) 2 16 Try.underlying36 hi hz0 hz1 hz2 rfl (by omega) (.slice A9 k c9) k (Tr.cells ms) rfl (HO1.out.alloc _) ⟨w1.heap.size, 0, none⟩ 1 1 (Tr.cells [((x : Int), (y : Int))]) rfl rfl (two_new _ _ _ _) (Tr.cells_cell _) (by unfold maxLen; omega) (by omega) (by have := HB1.out.size; simp; omega) ?_; intro v2 w2 hown2 hgrow2 hnil2; have hb2 : Below wr.heap.size wr w2 := (HB1.out.alloc HB1.out.size _).grown hgrow2 (by have := HB1.out.size; simp; omega) (fun q hq => (HO1.out.lt q hq).1); obtain ⟨a2, c2, rfl, nd2, mk2⟩ := MKy.out w2 v2 (HB.out.trans (hb2.mono HB.out.size)) (own_base hown2 HB.out.size); have HND := Lib.hid nd2; have HMK := Lib.hid mk2; have HB2 := Lib.hid hb2; clear hown2 hgrow2 hnil2 nd2 mk2 hb2)
            | (go_at_call 14; refine HMK.out.mono ?_; rintro e w5 ⟨rfl, hb5⟩; have HB5 := Lib.hid (HB2.out.trans (hb5.out.mono HB2.out.size)))
            | (go_at_call 44; refine (MRy.out w5 a2 c2 (HB.out.trans (HB5.out.mono HB.out.size)) (HND.out.to_below hb5.out)).mono ?_; rintro e w6 ⟨g3, m3, c3, vs3, rfl, H6⟩; have HB6 := Lib.hid (HB5.out.trans (H6.out.2.2.1.mono HB5.out.size)); have HR6 := Lib.hid (HR.out.below HB6.out))
            | (at_builtin; (refine wpList_append_own _ rfl _ _ 30 rfl W.heap.size 36 i1 (.slice none 0 0) 1 24 Try.underlying30 hj hy0 hy1 hy2 rfl (by decide) u9 us.length us rfl HR6.out.1 ⟨g3, 0, none⟩ m3 c3 vs3 rfl (by rw [H6.out.1, Nat.mul_one]) (row_src H6.out.2.2.2) H6.out.2.1.ones (by unfold maxLen; have := HR6.out.2.1; have := HL3.out; have := H6.out.1; have := H6.out.2.1.2.1; omega) (by have := HR6.out.2.1; have := HL3.out; have := H6.out.1; have := H6.out.2.1.2.1; omega) (by have := HB.out.size; have := HB6.out.size; omega) ?_; intro v7 w7 hown7 hgrow7 hnil7; have H7 := Lib.hid (And.intro hown7 hgrow7); clear hown7 hgrow7 hnil7)))
          go_roundw
          case rel =>
            refine ⟨y + 1, us ++ vs3, by omega, by omega, by go_num, ?_⟩
            rw [HU.out]
            have b6 := HB6.out
            have sz5 := HB5.out.size
            have szr := HB.out.size
            refine Lib.hid ⟨RowsP.append HR6.out (H6.out.2.1.lower (by omega)) H7.out.2 (by rw [H6.out.1]; exact H7.out.1), ((HB.out.trans (b6.mono szr)).grown H7.out.2 (by have := b6.size; omega) (fun q hq => (HR6.out.1.lt q hq).1))⟩
          case measure => simp [intOf]; omega
      · obtain rfl : y = n' := by omega
        go_wp2
        go_ret
        exact ⟨_, us, rfl, by rw [← HEN.out]; exact hs.out.1, hs.out.2⟩

end Go.Proofs.Ytnfjdlocmdgefaa

/- Contracts (AmL). -/
namespace Go.Proofs.Ytnfjdlocmdgefaa
open Go.RowKit
set_option linter.unusedVariables false

/-- the least cost of the first i rows, -1 of none -/
def Am.out (xs ys : Tr) (k : Co) (l : List Tr) : Nat → Int
  | 0 => -1
  | i + 1 => if i = 0 ∨ Mp.cost xs ys k (l.getD i []) < Am.out xs ys k l i then Mp.cost xs ys k (l.getD i []) else Am.out xs ys k l i
def Am.least (xs ys : Tr) (k : Co) : Int := if (Tr.ok xs && Tr.ok ys && decide (xs.length ≤ 5) && decide (ys.length ≤ 5)) && Co.ok k then Tr.rootDist xs ys k else -1
section
variable {xs ys : Tr} {k : Co}
theorem Am.out_first (l : List Tr) : Am.out xs ys k l 1 = Mp.cost xs ys k (l.getD 0 []) := by rw [Am.out, if_pos (.inl rfl)]
theorem Am.out_min (l : List Tr) : ∀ i : Nat, (∀ j, j < i + 1 → Am.out xs ys k l (i + 1) ≤ Mp.cost xs ys k (l.getD j [])) ∧ ∃ j, j < i + 1 ∧ Am.out xs ys k l (i + 1) = Mp.cost xs ys k (l.getD j [])
  | 0 => by
    refine ⟨fun j hj => ?_, 0, by omega, Am.out_first l⟩
    obtain rfl : j = 0 := by omega
    rw [Am.out_first]
    exact Int.le_refl _
  | i + 1 => by
    obtain ⟨h1, j0, hj0, h2⟩ := Am.out_min l i
    rw [Am.out]
    by_cases c : i + 1 = 0 ∨ Mp.cost xs ys k (l.getD (i + 1) []) < Am.out xs ys k l (i + 1)
    · rw [if_pos c]
      refine ⟨fun j hj => ?_, i + 1, by omega, rfl⟩
      rcases Nat.lt_or_ge j (i + 1) with h | h
      · have := h1 j h
        omega
      · obtain rfl : j = i + 1 := by omega
        exact Int.le_refl _
    · rw [if_neg c]
      refine ⟨fun j hj => ?_, j0, by omega, h2⟩
      rcases Nat.lt_or_ge j (i + 1) with h | h
      · exact h1 j h
      · obtain rfl : j = i + 1 := by omega
        omega
theorem Am.all_yes (h : (Tr.ok xs && Tr.ok ys && decide (xs.length ≤ 5) && decide (ys.length ≤ 5)) = true) : Am.all xs ys = Am.more xs ys (xs.length - 1) [(0, 0)] := by rw [Am.all, if_pos h]
theorem Am.all_no (h : (Tr.ok xs && Tr.ok ys && decide (xs.length ≤ 5) && decide (ys.length ≤ 5)) = false) : Am.all xs ys = [] := by rw [Am.all, if_neg (by rw [h]; simp)]
theorem Am.start_ok (hx : Tr.ok xs = true) (hy : Tr.ok ys = true) : Mp.ok xs ys [(0, 0)] = true := by
  have x1 := (Tr.len24 hx).1
  have y1 := (Tr.len24 hy).1
  refine Mp.ok_iff.2 ⟨hx, hy, fun e he => ?_, List.pairwise_singleton _ _⟩
  obtain rfl := List.mem_singleton.1 he
  exact ⟨Tr.has_iff.2 ⟨hx, by dsimp only; omega, by dsimp only; omega⟩, Tr.has_iff.2 ⟨hy, by dsimp only; omega, by dsimp only; omega⟩⟩
/-- each of them: valid, root to root -/
theorem Am.all_ok {L : Tr} (hL : L ∈ Am.all xs ys) : Mp.ok xs ys L = true ∧ Tr.rooted L = true := by
  cases h : (Tr.ok xs && Tr.ok ys && decide (xs.length ≤ 5) && decide (ys.length ≤ 5)) with
  | false => rw [Am.all_no h] at hL; cases hL
  | true =>
    rw [Am.all_yes h] at hL
    simp only [Bool.and_eq_true] at h
    obtain ⟨h1, Z, rfl⟩ := Am.more_ok _ _ (Am.start_ok h.1.1.1 h.1.1.2) L hL
    exact ⟨h1, by simp [Tr.rooted, Tr.l, Tr.d]⟩
theorem Am.all_len : (Am.all xs ys).length ≤ 3125 := by
  cases h : (Tr.ok xs && Tr.ok ys && decide (xs.length ≤ 5) && decide (ys.length ≤ 5)) with
  | false => rw [Am.all_no h]; decide
  | true =>
    rw [Am.all_yes h]
    simp only [Bool.and_eq_true, decide_eq_true_eq] at h
    have a := (Am.more_len (xs := xs) (Tr.len24 h.1.1.2).1 (xs.length - 1) [(0, 0)]).2
    have b : ys.length ^ (xs.length - 1) ≤ 5 ^ (xs.length - 1) := Nat.pow_le_pow_left h.2 _
    have c : 5 ^ (xs.length - 1) ≤ 5 ^ 5 := Nat.pow_le_pow_right (by decide) (by omega)
    have d : 5 ^ 5 = 3125 := by decide
    omega
theorem Am.best_in (h : (Tr.ok xs && Tr.ok ys && decide (xs.length ≤ 5) && decide (ys.length ≤ 5)) = true) (hk : Co.ok k = true) : Bm.best xs ys k ∈ Am.all xs ys ∧ Mp.cost xs ys k (Bm.best xs ys k) = Tr.rootDist xs ys k := by
  rw [Am.all_yes h]
  simp only [Bool.and_eq_true] at h
  rw [Bm.best_yes (by unfold DOk; rw [h.1.1.1, h.1.1.2, hk]; rfl)]
  exact ⟨Am.has (Bm.best_ok h.1.1.1 h.1.1.2) (Bm.best_rooted h.1.1.1 h.1.1.2), Bm.best_cost h.1.1.1 h.1.1.2 hk⟩
theorem Am.out_all : Am.out xs ys k (Am.all xs ys) (Am.all xs ys).length = Am.least xs ys k := by
  unfold Am.least
  cases h : (Tr.ok xs && Tr.ok ys && decide (xs.length ≤ 5) && decide (ys.length ≤ 5)) with
  | false => rw [Am.all_no h]; rfl
  | true =>
    cases hk : Co.ok k with
    | false =>
      have hc : ∀ L : Tr, Mp.cost xs ys k L = -1 := fun L => by unfold Mp.cost; rw [hk, Bool.and_false]; rfl
      have : ∀ (l : List Tr) i, Am.out xs ys k l i = -1 := fun l i => by
        induction i with
        | zero => rfl
        | succ i ih =>
          rw [Am.out, hc, ih]
          split <;> rfl
      rw [this]
      rfl
    | true =>
      obtain ⟨b1, b2⟩ := Am.best_in h hk
      obtain ⟨n, hn⟩ : ∃ n, (Am.all xs ys).length = n + 1 := ⟨(Am.all xs ys).length - 1, by have := List.length_pos_of_mem b1; omega⟩
      rw [hn]
      obtain ⟨m1, j, hj, m2⟩ := Am.out_min (xs := xs) (ys := ys) (k := k) (Am.all xs ys) n
      obtain ⟨q, hq, e⟩ := List.getElem_of_mem b1
      have a := m1 q (by omega)
      rw [List.getD_eq_getElem?_getD, List.getElem?_eq_getElem hq, Option.getD_some, e, b2] at a
      have hjn : j < (Am.all xs ys).length := by omega
      have g := Am.all_ok (List.getElem_mem hjn)
      have lo := Lb.root g.1 g.2 hk
      rw [List.getD_eq_getElem?_getD, List.getElem?_eq_getElem hjn, Option.getD_some] at m2
      show _ = Tr.rootDist xs ys k
      omega
end

end Go.Proofs.Ytnfjdlocmdgefaa

/- Contracts (MapsS). -/
namespace Go.Proofs.Ytnfjdlocmdgefaa
open Go.RowKit
set_option linter.unusedVariables false


set_option maxHeartbeats 800000 in
set_option maxRecDepth 100000 in
theorem specMapsOf_any {xs ys : Tr} {A A' : Option Addr} {n n' c c' : Nat} (w : World) (ha : NdIn w w.heap.size A n xs) (hb : NdIn w w.heap.size A' n' ys) (hn : n ≤ 1048576) (hn' : n' ≤ 1048576) :
    Calls Try.prog 16 #[.slice A n c, .slice A' n' c'] w (OwnRows (Am.all xs ys) w) := by
  have T1 : ∀ wq, Drawn w wq → Calls Try.prog 10 #[.slice A n c] wq fun e w' => e = .returned (.bool (Tr.ok xs)) ∧ Drawn w w' := fun wq hd => (specTreeOk_any A n c xs wq (ha.to_drawn hd) hn).mono fun e w' h => ⟨h.1, hd.trans h.2⟩
  have T2 : ∀ wq, Drawn w wq → Calls Try.prog 10 #[.slice A' n' c'] wq fun e w' => e = .returned (.bool (Tr.ok ys)) ∧ Drawn w w' := fun wq hd => (specTreeOk_any A' n' c' ys wq (hb.to_drawn hd) hn').mono fun e w' h => ⟨h.1, hd.trans h.2⟩
  have EM : ∀ wq, Drawn w wq → Am.all xs ys = [] → OwnRows (Am.all xs ys) w (.returned (.slice (some ⟨wq.heap.size, 0, none⟩) 0 0)) (wq.alloc (.cells #[] 36)) := fun wq hd he => by
    have hb0 : Below w.heap.size w wq := hd.toBelow
    rw [he]
    exact ⟨_, [], rfl, ⟨World.ownsRow_lit wq #[] 0 hb0.size (Nat.zero_le _) rfl, rfl, fun i hi => absurd hi (Nat.not_lt_zero _)⟩, hb0.alloc hb0.size _⟩
  have MR : Tr.ok xs = true → Tr.ok ys = true → n ≤ 5 → n' ≤ 5 → ∀ wq, Drawn w wq → Calls Try.prog 44 #[.slice A n c, .slice A' n' c', .slice (some ⟨wq.heap.size, 0, none⟩) 1 1, .int .i64 1] (wq.alloc (.cells #[.int .i64 0, .int .i64 0] 77)) fun e w' => ∃ v, e = .returned v ∧ Hid (OwnRows (Am.all xs ys) w (.returned v) w') := fun h1 h2 h3 h4 wq hd => by
    have hb0 : Below w.heap.size w wq := hd.toBelow
    have b2 : Below w.heap.size w (wq.alloc (.cells #[.int .i64 0, .int .i64 0] 77)) := hb0.alloc hb0.size _
    have nx := ha.1
    have ny := hb.1
    have x1 := (Tr.len24 h1).1
    have o := World.ownsRow_lit (base := w.heap.size) (size := 2) (e := 77) wq #[.int .i64 0, .int .i64 0] 1 hb0.size (by decide) rfl
    refine (specMore_any h1 h2 nx.symm ny.symm h3 h4 (xs.length - 1) 1 1 1 ⟨wq.heap.size, 0, none⟩ 1 [(0, 0)] _ (by omega) (Nat.le_refl _) rfl (Nat.le_refl _) (Nat.le_refl _) (ha.to_below b2) (hb.to_below b2) (NdIn.of_own o)).mono ?_
    rintro e w' ⟨v, vs, rfl, hr, hb'⟩
    rw [Am.all_yes (by rw [h1, h2, decide_eq_true (by omega), decide_eq_true (by omega)]; rfl)]
    exact ⟨v, rfl, Lib.hid ⟨v, vs, rfl, hr.lower b2.size, b2.trans (hb'.mono b2.size)⟩⟩
  have D0 := Lib.hid (Drawn.refl w)
  have HT1 := Lib.hid T1
  have HT2 := Lib.hid T2
  have HEM := Lib.hid EM
  have HMR := Lib.hid MR
  have nx := Lib.hid ha.1
  have ny := Lib.hid hb.1
  clear T1 T2 EM MR ha hb
  cases hx : Tr.ok xs with
  | false =>
    have HN := Lib.hid (show Am.all xs ys = [] from Am.all_no (by rw [hx]; rfl))
    rw [hx] at HT1
    clear hx HMR HT2
    go_enter Try.func16, Try.ntmps16
    go_wp2_with (go_at_call 10; refine (HT1.out _ D0.out).mono ?_; rintro e w2 ⟨rfl, hd⟩; have HD := Lib.hid hd; clear hd)
    go_ret
    exact HEM.out _ HD.out HN.out
  | true =>
    cases hy : Tr.ok ys with
    | false =>
      have HN := Lib.hid (show Am.all xs ys = [] from Am.all_no (by rw [hx, hy]; rfl))
      rw [hx] at HT1
      rw [hy] at HT2
      clear hx hy HMR
      go_enter Try.func16, Try.ntmps16
      go_wp2_with (go_at_call 10; first | (refine (HT1.out _ D0.out).mono ?_; clear HT1; rintro e w2 ⟨rfl, hd⟩; have HD := Lib.hid hd; clear hd) | (refine (HT2.out _ HD.out).mono ?_; rintro e w3 ⟨rfl, hd⟩; have HD2 := Lib.hid hd; clear hd))
      go_ret
      exact HEM.out _ HD2.out HN.out
    | true =>
      by_cases h5 : n ≤ 5
      · by_cases h6 : n' ≤ 5
        · have HM2 := Lib.hid (HMR.out hx hy h5 h6)
          rw [hx] at HT1
          rw [hy] at HT2
          have q1 : decide ((5 : Int) < (n : Int)) = false := by simp; omega
          have q2 : decide ((5 : Int) < (n' : Int)) = false := by simp; omega
          clear hx hy HMR HEM
          go_enter Try.func16, Try.ntmps16
          go_wp2_with (first
            | (go_at_call 10; first | (refine (HT1.out _ D0.out).mono ?_; clear HT1; rintro e w2 ⟨rfl, hd⟩; have HD := Lib.hid hd; clear hd) | (refine (HT2.out _ HD.out).mono ?_; rintro e w3 ⟨rfl, hd⟩; have HD2 := Lib.hid hd; clear hd))
            | (go_at_call 44; refine (HM2.out _ HD2.out).mono ?_; rintro e w4 ⟨v, rfl, h4⟩))
          go_ret
          exact h4.out
        · have HN := Lib.hid (show Am.all xs ys = [] from Am.all_no (by rw [hx, hy, decide_eq_false (show ¬ ys.length ≤ 5 by rw [ny.out]; exact h6), Bool.and_false]))
          rw [hx] at HT1
          rw [hy] at HT2
          have q1 : decide ((5 : Int) < (n : Int)) = false := by simp; omega
          have q2 : decide ((5 : Int) < (n' : Int)) = true := by simp; omega
          clear hx hy HMR
          go_enter Try.func16, Try.ntmps16
          go_wp2_with (go_at_call 10; first | (refine (HT1.out _ D0.out).mono ?_; clear HT1; rintro e w2 ⟨rfl, hd⟩; have HD := Lib.hid hd; clear hd) | (refine (HT2.out _ HD.out).mono ?_; rintro e w3 ⟨rfl, hd⟩; have HD2 := Lib.hid hd; clear hd))
          go_ret
          exact HEM.out _ HD2.out HN.out
      · have HN := Lib.hid (show Am.all xs ys = [] from Am.all_no (by rw [hx, hy, decide_eq_false (show ¬ xs.length ≤ 5 by rw [nx.out]; exact h5), Bool.and_false, Bool.false_and]))
        rw [hx] at HT1
        rw [hy] at HT2
        have q1 : decide ((5 : Int) < (n : Int)) = true := by simp; omega
        clear hx hy HMR
        go_enter Try.func16, Try.ntmps16
        go_wp2_with (go_at_call 10; first | (refine (HT1.out _ D0.out).mono ?_; clear HT1; rintro e w2 ⟨rfl, hd⟩; have HD := Lib.hid hd; clear hd) | (refine (HT2.out _ HD.out).mono ?_; rintro e w3 ⟨rfl, hd⟩; have HD2 := Lib.hid hd; clear hd))
        go_ret
        exact HEM.out _ HD2.out HN.out

end Go.Proofs.Ytnfjdlocmdgefaa

/- Contracts (OfS). -/
namespace Go.Proofs.Ytnfjdlocmdgefaa
open Go.RowKit
set_option linter.unusedVariables false

set_option maxHeartbeats 800000 in
set_option maxRecDepth 100000 in
theorem l10Of_any (A : Option Addr) (n c : Nat) (ms : Tr) (i : Int) (w : World) (h : NdIn w w.heap.size A n ms) (hn : n ≤ 1048576) :
    Calls Try.prog 75 #[.slice A n c, .int .i64 i] w fun e w' => e = .returned (.int .i64 (Mp.of ms i)) ∧ Drawn w w' := by
  have H := Lib.hid h
  have HL := Lib.hid h.1
  clear h
  go_enter Try.func75, Try.ntmps75
  go_wp2
  go_loopw [5] (fun iv wr => ∃ k : Nat, k ≤ n ∧ iv = .int .i64 k ∧ (∀ q, q < k → Tr.l ms q ≠ i) ∧ Drawn w wr) (fun v _ => n - (intOf v).toNat)
  case atStart => exact ⟨0, by omega, rfl, fun q hq => absurd hq (by omega), Drawn.refl _⟩
  case round =>
    obtain ⟨k, hk, rfl, hg, hD⟩ := hrel
    have HG := Lib.hid hg
    have HD := Lib.hid hD
    clear hg hD
    by_cases hlt : k < n
    · obtain ⟨ad, rfl, hb, hl, hd⟩ := (H.out.to_drawn HD.out).at_ (k := k) hlt
      have hk0 : (0 : Int) ≤ (k : Int) := by omega
      have hklt : (k : Int) < (n : Int) := by omega
      have HKL := Lib.hid (show k < ms.length by rw [HL.out]; exact hlt)
      by_cases e : Tr.l ms k = i
      · have hf := Lib.hid (Mp.of_hit HKL.out e HG.out)
        as_aux_lemma =>
          go_wp2
          go_ret
          exact ⟨Kit.ret_int hf.out.symm, HD.out⟩
      · have HE := Lib.hid e
        as_aux_lemma =>
          go_wp2
          go_roundw
          case rel => exact ⟨k + 1, by omega, by go_num, fun q hq => by
            rcases Nat.lt_succ_iff_lt_or_eq.1 hq with h' | rfl
            · exact HG.out q h'
            · exact HE.out, HD.out⟩
          case measure => simp [intOf]; omega
    · obtain rfl : k = n := by omega
      have hf := Lib.hid (Mp.of_none (fun q hq => HG.out q (by rw [← HL.out]; exact hq)) : Mp.of ms i = -1)
      go_wp2
      go_ret
      exact ⟨Kit.ret_int hf.out.symm, HD.out⟩
set_option maxHeartbeats 800000 in
set_option maxRecDepth 100000 in
theorem l10Back_any (A : Option Addr) (n c : Nat) (ms : Tr) (i : Int) (w : World) (h : NdIn w w.heap.size A n ms) (hn : n ≤ 1048576) :
    Calls Try.prog 78 #[.slice A n c, .int .i64 i] w fun e w' => e = .returned (.int .i64 (Mp.back ms i)) ∧ Drawn w w' := by
  have H := Lib.hid h
  have HL := Lib.hid h.1
  clear h
  go_enter Try.func78, Try.ntmps78
  go_wp2
  go_loopw [5] (fun iv wr => ∃ k : Nat, k ≤ n ∧ iv = .int .i64 k ∧ (∀ q, q < k → Tr.d ms q ≠ i) ∧ Drawn w wr) (fun v _ => n - (intOf v).toNat)
  case atStart => exact ⟨0, by omega, rfl, fun q hq => absurd hq (by omega), Drawn.refl _⟩
  case round =>
    obtain ⟨k, hk, rfl, hg, hD⟩ := hrel
    have HG := Lib.hid hg
    have HD := Lib.hid hD
    clear hg hD
    by_cases hlt : k < n
    · obtain ⟨ad, rfl, hb, hl, hd⟩ := (H.out.to_drawn HD.out).at_ (k := k) hlt
      have hk0 : (0 : Int) ≤ (k : Int) := by omega
      have hklt : (k : Int) < (n : Int) := by omega
      have HKL := Lib.hid (show k < ms.length by rw [HL.out]; exact hlt)
      by_cases e : Tr.d ms k = i
      · have hf := Lib.hid (Mp.back_hit HKL.out e HG.out)
        as_aux_lemma =>
          go_wp2
          go_ret
          exact ⟨Kit.ret_int hf.out.symm, HD.out⟩
      · have HE := Lib.hid e
        as_aux_lemma =>
          go_wp2
          go_roundw
          case rel => exact ⟨k + 1, by omega, by go_num, fun q hq => by
            rcases Nat.lt_succ_iff_lt_or_eq.1 hq with h' | rfl
            · exact HG.out q h'
            · exact HE.out, HD.out⟩
          case measure => simp [intOf]; omega
    · obtain rfl : k = n := by omega
      have hf := Lib.hid (Mp.back_none (fun q hq => HG.out q (by rw [← HL.out]; exact hq)) : Mp.back ms i = -1)
      go_wp2
      go_ret
      exact ⟨Kit.ret_int hf.out.symm, HD.out⟩

end Go.Proofs.Ytnfjdlocmdgefaa

/- Contracts (DelS). -/
namespace Go.Proofs.Ytnfjdlocmdgefaa
open Go.RowKit
set_option linter.unusedVariables false

set_option maxHeartbeats 1600000 in
set_option maxRecDepth 100000 in
theorem specDelCost_any (A0 A1 A2 : Option Addr) (n0 n1 n2 c0 c1 c2 : Nat) (k : Co) (a : Int) (w : World) (h : CoIn w w.heap.size A0 A1 A2 n0 n1 n2 k) (h0 : n0 ≤ 1048576) (h1 : n1 ≤ 1048576) (h2 : n2 ≤ 1048576) :
    Calls Try.prog 76 #[.agg #[.slice A0 n0 c0, .slice A1 n1 c1, .slice A2 n2 c2], .int .i64 a] w fun e w' => e = .returned (.int .i64 (Co.del k a)) ∧ Below w.heap.size w w' := by
  have H := Lib.hid h
  have HL := Lib.hid h.len
  clear h
  have HB := Lib.hid ((Below.refl w.heap.size w).alloc (Nat.le_refl _) (.cells #[.slice A0 n0 c0, .slice A1 n1 c1, .slice A2 n2 c2] 27))
  have H1 := Lib.hid (H.out.to_below HB.out)
  cases e0 : Co.ok k with
  | false =>
    have Hf := Lib.hid (show Co.del k a = 0 by unfold Co.del; rw [e0]; rfl)
    have E0 := Lib.hid e0
    clear e0
    go_enter Try.func76, Try.ntmps76
    go_wp2_with fail
    refine (specCostOk_any _ _ _ _ _ _ _ _ _ k _ H1.out h0 h1 h2).mono ?_
    rintro e w1 ⟨rfl, hb⟩
    have HB := Lib.hid (HB.out.trans (hb.mono HB.out.size))
    clear hb
    rw [E0.out]
    go_wp2
    go_ret
    exact ⟨Kit.ret_int Hf.out.symm, HB.out⟩
  | true =>
    cases e1 : Lab.ok a with
    | false =>
      have Hf := Lib.hid (show Co.del k a = 0 by unfold Co.del; rw [e0, e1]; rfl)
      have E0 := Lib.hid e0
      have E1 := Lib.hid e1
      clear e0 e1
      go_enter Try.func76, Try.ntmps76
      go_wp2_with fail
      refine (specCostOk_any _ _ _ _ _ _ _ _ _ k _ H1.out h0 h1 h2).mono ?_
      rintro e w1 ⟨rfl, hb⟩
      have HB := Lib.hid (HB.out.trans (hb.mono HB.out.size))
      clear hb
      rw [E0.out]
      go_wp2_with fail
      refine (specLabelOk_any _ _).mono ?_
      rintro e w2 ⟨rfl, rfl⟩
      rw [E1.out]
      go_wp2
      go_ret
      exact ⟨Kit.ret_int Hf.out.symm, HB.out⟩
    | true =>
      have hl := (Co.ok_iff.1 e0)
      have hd := (Zs.fit_iff.1 hl.1).1
      have ha : 0 ≤ a ∧ a ≤ 5 := by simpa [Lab.ok] using e1
      obtain ⟨j, rfl⟩ := Int.eq_ofNat_of_zero_le ha.1
      have Hf := Lib.hid (show Co.del k (j : Int) = Zs.at k.d j by unfold Co.del; rw [e0, e1]; rfl)
      have E0 := Lib.hid e0
      have E1 := Lib.hid e1
      have hn6 : n0 = 6 := by rw [← hd]; exact HL.out.1.symm
      clear e0 e1 hl hd
      subst hn6
      obtain ⟨ad, rfl, _⟩ := H1.out.1.2.1 (by omega)
      have hj : j < 6 := by omega
      have j0 : (0 : Int) ≤ (j : Int) := by omega
      have j1 : (j : Int) < 6 := by omega
      have g0 : (w.alloc (.cells #[.slice (some ad) 6 c0, .slice A1 n1 c1, .slice A2 n2 c2] 27)).cell? ⟨w.heap.size, 0, none⟩ = some (.slice (some ad) 6 c0) := by simp
      have f0 := HB.out
      go_enter Try.func76, Try.ntmps76
      go_wp2_with fail
      refine (specCostOk_any _ _ _ _ _ _ _ _ _ k _ H1.out h0 h1 h2).mono ?_
      rintro e w1 ⟨rfl, hb⟩
      have HB := Lib.hid (HB.out.trans (hb.mono HB.out.size))
      have H1 := Lib.hid (H1.out.to_below hb)
      have g1 := (hb.cell (p := ⟨w.heap.size, 0, none⟩) (by simp)).trans g0
      have c1' := H1.out.1.here (k := j) hj
      clear hb g0 f0
      rw [E0.out]
      go_wp2_with fail
      refine (specLabelOk_any _ _).mono ?_
      rintro e w2 ⟨rfl, rfl⟩
      rw [E1.out]
      go_wp2
      go_ret
      exact ⟨Kit.ret_int Hf.out.symm, HB.out⟩

end Go.Proofs.Ytnfjdlocmdgefaa

/- Contracts (InsS). -/
namespace Go.Proofs.Ytnfjdlocmdgefaa
open Go.RowKit
set_option linter.unusedVariables false

set_option maxHeartbeats 1600000 in
set_option maxRecDepth 100000 in
theorem specInsCost_any (A0 A1 A2 : Option Addr) (n0 n1 n2 c0 c1 c2 : Nat) (k : Co) (a : Int) (w : World) (h : CoIn w w.heap.size A0 A1 A2 n0 n1 n2 k) (h0 : n0 ≤ 1048576) (h1 : n1 ≤ 1048576) (h2 : n2 ≤ 1048576) :
    Calls Try.prog 79 #[.agg #[.slice A0 n0 c0, .slice A1 n1 c1, .slice A2 n2 c2], .int .i64 a] w fun e w' => e = .returned (.int .i64 (Co.ins k a)) ∧ Below w.heap.size w w' := by
  have H := Lib.hid h
  have HL := Lib.hid h.len
  clear h
  have HB := Lib.hid ((Below.refl w.heap.size w).alloc (Nat.le_refl _) (.cells #[.slice A0 n0 c0, .slice A1 n1 c1, .slice A2 n2 c2] 27))
  have H1 := Lib.hid (H.out.to_below HB.out)
  cases e0 : Co.ok k with
  | false =>
    have Hf := Lib.hid (show Co.ins k a = 0 by unfold Co.ins; rw [e0]; rfl)
    have E0 := Lib.hid e0
    clear e0
    go_enter Try.func79, Try.ntmps79
    go_wp2_with fail
    refine (specCostOk_any _ _ _ _ _ _ _ _ _ k _ H1.out h0 h1 h2).mono ?_
    rintro e w1 ⟨rfl, hb⟩
    have HB := Lib.hid (HB.out.trans (hb.mono HB.out.size))
    clear hb
    rw [E0.out]
    go_wp2
    go_ret
    exact ⟨Kit.ret_int Hf.out.symm, HB.out⟩
  | true =>
    cases e1 : Lab.ok a with
    | false =>
      have Hf := Lib.hid (show Co.ins k a = 0 by unfold Co.ins; rw [e0, e1]; rfl)
      have E0 := Lib.hid e0
      have E1 := Lib.hid e1
      clear e0 e1
      go_enter Try.func79, Try.ntmps79
      go_wp2_with fail
      refine (specCostOk_any _ _ _ _ _ _ _ _ _ k _ H1.out h0 h1 h2).mono ?_
      rintro e w1 ⟨rfl, hb⟩
      have HB := Lib.hid (HB.out.trans (hb.mono HB.out.size))
      clear hb
      rw [E0.out]
      go_wp2_with fail
      refine (specLabelOk_any _ _).mono ?_
      rintro e w2 ⟨rfl, rfl⟩
      rw [E1.out]
      go_wp2
      go_ret
      exact ⟨Kit.ret_int Hf.out.symm, HB.out⟩
    | true =>
      have hl := (Co.ok_iff.1 e0)
      have hd := (Zs.fit_iff.1 hl.2.1).1
      have ha : 0 ≤ a ∧ a ≤ 5 := by simpa [Lab.ok] using e1
      obtain ⟨j, rfl⟩ := Int.eq_ofNat_of_zero_le ha.1
      have Hf := Lib.hid (show Co.ins k (j : Int) = Zs.at k.i j by unfold Co.ins; rw [e0, e1]; rfl)
      have E0 := Lib.hid e0
      have E1 := Lib.hid e1
      have hn6 : n1 = 6 := by rw [← hd]; exact HL.out.2.1.symm
      clear e0 e1 hl hd
      subst hn6
      obtain ⟨ad, rfl, _⟩ := H1.out.2.1.2.1 (by omega)
      have hj : j < 6 := by omega
      have j0 : (0 : Int) ≤ (j : Int) := by omega
      have j1 : (j : Int) < 6 := by omega
      have g0 : (w.alloc (.cells #[.slice A0 n0 c0, .slice (some ad) 6 c1, .slice A2 n2 c2] 27)).cell? ⟨w.heap.size, 1, none⟩ = some (.slice (some ad) 6 c1) := by simp
      have f0 := HB.out
      go_enter Try.func79, Try.ntmps79
      go_wp2_with fail
      refine (specCostOk_any _ _ _ _ _ _ _ _ _ k _ H1.out h0 h1 h2).mono ?_
      rintro e w1 ⟨rfl, hb⟩
      have HB := Lib.hid (HB.out.trans (hb.mono HB.out.size))
      have H1 := Lib.hid (H1.out.to_below hb)
      have g1 := (hb.cell (p := ⟨w.heap.size, 1, none⟩) (by simp)).trans g0
      have c1' := H1.out.2.1.here (k := j) hj
      clear hb g0 f0
      rw [E0.out]
      go_wp2_with fail
      refine (specLabelOk_any _ _).mono ?_
      rintro e w2 ⟨rfl, rfl⟩
      rw [E1.out]
      go_wp2
      go_ret
      exact ⟨Kit.ret_int Hf.out.symm, HB.out⟩

end Go.Proofs.Ytnfjdlocmdgefaa

/- Contracts (Fiv). -/
namespace Go.Proofs.Ytnfjdlocmdgefaa
open Go.RowKit
set_option linter.unusedVariables false

section
variable {wa wx wy : World} {b : Nat} {p q : Addr} {v0 v1 v2 v3 v4 : Value}
theorem fv_below (h : ((wx.cell? ⟨b, 0, none⟩ = some v0 ∧ wx.cell? ⟨b, 1, none⟩ = some v1 ∧ wx.cell? ⟨b, 2, none⟩ = some v2) ∧ (wx.cell? p = some v3 ∧ wx.cell? q = some v4)) ∧ BelA wa wx) : Below wa.heap.size wa wx := h.2
theorem fv_keep (h : ((wx.cell? ⟨b, 0, none⟩ = some v0 ∧ wx.cell? ⟨b, 1, none⟩ = some v1 ∧ wx.cell? ⟨b, 2, none⟩ = some v2) ∧ (wx.cell? p = some v3 ∧ wx.cell? q = some v4)) ∧ BelA wa wx) (hb : Below wx.heap.size wx wy) : ((wy.cell? ⟨b, 0, none⟩ = some v0 ∧ wy.cell? ⟨b, 1, none⟩ = some v1 ∧ wy.cell? ⟨b, 2, none⟩ = some v2) ∧ (wy.cell? p = some v3 ∧ wy.cell? q = some v4)) ∧ BelA wa wy :=
  have c : ∀ {p : Addr} {v : Value}, wx.cell? p = some v → wy.cell? p = some v := fun hc => (hb.cell (World.block_lt_of_cell? _ _ hc)).trans hc
  ⟨⟨⟨c h.1.1.1, c h.1.1.2.1, c h.1.1.2.2⟩, c h.1.2.1, c h.1.2.2⟩, h.2.trans (hb.mono h.2.size)⟩
end

end Go.Proofs.Ytnfjdlocmdgefaa

/- Contracts (McS). -/
namespace Go.Proofs.Ytnfjdlocmdgefaa
open Go.RowKit
set_option linter.unusedVariables false

set_option maxHeartbeats 3200000 in
set_option maxRecDepth 100000 in
theorem specMapCost_any (A A' A'' K0 K1 K2 : Option Addr) (n n' n'' n0 n1 n2 c c' c'' c0 c1 c2 : Nat) (xs ys ms : Tr) (k : Co) (w : World) (ha : NdIn w w.heap.size A n xs) (hb : NdIn w w.heap.size A' n' ys) (hk : CoIn w w.heap.size K0 K1 K2 n0 n1 n2 k) (hm : NdIn w w.heap.size A'' n'' ms) (hn : n ≤ 1048576) (hn' : n' ≤ 1048576) (hn'' : n'' ≤ 1048576) (h0 : n0 ≤ 1048576) (h1 : n1 ≤ 1048576) (h2 : n2 ≤ 1048576) :
    Calls Try.prog 51 #[.slice A n c, .slice A' n' c', .agg #[.slice K0 n0 c0, .slice K1 n1 c1, .slice K2 n2 c2], .slice A'' n'' c''] w fun e w' => e = .returned (.int .i64 (Mp.cost xs ys k ms)) ∧ Below w.heap.size w w' := by
  obtain ⟨wc, hwc⟩ : ∃ wc, wc = w.alloc (.cells #[.slice K0 n0 c0, .slice K1 n1 c1, .slice K2 n2 c2] 27) := ⟨_, rfl⟩
  have hbc : Below w.heap.size w wc := by rw [hwc]; exact (Below.refl _ _).alloc (Nat.le_refl _) _
  have HQ := Lib.hid (show Box3 wc w.heap.size (.slice K0 n0 c0) (.slice K1 n1 c1) (.slice K2 n2 c2) by rw [hwc]; exact Box3.made _ _ _ _ _)
  have HWC := Lib.hid hwc
  have HA := Lib.hid (ha.to_below hbc)
  have HB := Lib.hid (hb.to_below hbc)
  have HM := Lib.hid (hm.to_below hbc)
  have HK := Lib.hid (hk.to_below hbc)
  have HBC := Lib.hid hbc
  have HN := Lib.hid ha.1
  have HN' := Lib.hid hb.1
  have HN2 := Lib.hid hm.1
  have HBX := Lib.hid (fun (wq : World) (hq : Below wc.heap.size wc wq) => (⟨(hq.cell (World.block_lt_of_cell? _ _ HQ.out.1)).trans HQ.out.1, (hq.cell (World.block_lt_of_cell? _ _ HQ.out.2.1)).trans HQ.out.2.1, (hq.cell (World.block_lt_of_cell? _ _ HQ.out.2.2)).trans HQ.out.2.2⟩ : wq.cell? ⟨w.heap.size, 0, none⟩ = some (.slice K0 n0 c0) ∧ wq.cell? ⟨w.heap.size, 1, none⟩ = some (.slice K1 n1 c1) ∧ wq.cell? ⟨w.heap.size, 2, none⟩ = some (.slice K2 n2 c2)))
  obtain ⟨b1, hb1⟩ : ∃ b, b = Mp.ok xs ys ms := ⟨_, rfl⟩
  obtain ⟨b2, hb2⟩ : ∃ b, b = Co.ok k := ⟨_, rfl⟩
  have CM := Lib.hid (show Calls Try.prog 14 #[.slice A n c, .slice A' n' c', .slice A'' n'' c''] wc fun e w' => e = .returned (.bool b1) ∧ Below wc.heap.size wc w' from by
    rw [hb1]
    refine (specMapOk_any A A' A'' n n' n'' c c' c'' xs ys ms wc HA.out HB.out HM.out hn hn' hn'').mono ?_
    rintro e wq ⟨he, hh⟩
    exact ⟨he, hh.toBelow⟩)
  have CO := Lib.hid (fun (wq : World) (hq : Below wc.heap.size wc wq) => show Calls Try.prog 11 #[.agg #[.slice K0 n0 c0, .slice K1 n1 c1, .slice K2 n2 c2]] wq fun e w' => e = .returned (.bool b2) ∧ Below wq.heap.size wq w' from by rw [hb2]; exact specCostOk_any K0 K1 K2 n0 n1 n2 c0 c1 c2 k wq (HK.out.to_below hq) h0 h1 h2)
  have CD := Lib.hid (fun (l : Int) (wq : World) (hq : Below wc.heap.size wc wq) => ((specDelCost_any K0 K1 K2 n0 n1 n2 c0 c1 c2 k l wq (HK.out.to_below hq) h0 h1 h2) : Calls Try.prog 76 #[.agg #[.slice K0 n0 c0, .slice K1 n1 c1, .slice K2 n2 c2], .int .i64 l] wq fun e w' => e = .returned (.int .i64 (Co.del k l)) ∧ Below wq.heap.size wq w'))
  have CI := Lib.hid (fun (l : Int) (wq : World) (hq : Below wc.heap.size wc wq) => ((specInsCost_any K0 K1 K2 n0 n1 n2 c0 c1 c2 k l wq (HK.out.to_below hq) h0 h1 h2) : Calls Try.prog 79 #[.agg #[.slice K0 n0 c0, .slice K1 n1 c1, .slice K2 n2 c2], .int .i64 l] wq fun e w' => e = .returned (.int .i64 (Co.ins k l)) ∧ Below wq.heap.size wq w'))
  have CR := Lib.hid (fun (l m : Int) (wq : World) (hq : Below wc.heap.size wc wq) => ((specRelCost_any K0 K1 K2 n0 n1 n2 c0 c1 c2 k l m wq (HK.out.to_below hq) h0 h1 h2) : Calls Try.prog 77 #[.agg #[.slice K0 n0 c0, .slice K1 n1 c1, .slice K2 n2 c2], .int .i64 l, .int .i64 m] wq fun e w' => e = .returned (.int .i64 (Co.rel k l m)) ∧ Below wq.heap.size wq w'))
  have HB1 := Lib.hid hb1
  have HB2 := Lib.hid hb2
  clear ha hb hk hm hwc hbc hb1 hb2
  cases b1 with
  | false =>
    have Hf := Lib.hid (show Mp.cost xs ys k ms = -1 by unfold Mp.cost; rw [← HB1.out]; rfl)
    as_aux_lemma =>
      go_enter Try.func51, Try.ntmps51
      go_wp2_with fail
      rw [← HWC.out]
      (try go_wp2_with fail)
      refine CM.out.mono ?_
      rintro e w1 ⟨rfl, b1⟩
      have B1 := Lib.hid b1
      clear b1
      go_wp2
      go_ret
      exact ⟨Kit.ret_int Hf.out.symm, HBC.out.trans (B1.out.mono HBC.out.size)⟩
  | true =>
    cases b2 with
    | false =>
      have Hf := Lib.hid (show Mp.cost xs ys k ms = -1 by unfold Mp.cost; rw [← HB1.out, ← HB2.out]; rfl)
      as_aux_lemma =>
        go_enter Try.func51, Try.ntmps51
        go_wp2_with fail
        rw [← HWC.out]
        (try go_wp2_with fail)
        refine CM.out.mono ?_
        rintro e w1 ⟨rfl, b1⟩
        have B1 := Lib.hid b1
        clear b1
        obtain ⟨q0, q1, q2⟩ := HBX.out w1 B1.out
        go_wp2_with fail
        clear q0 q1 q2
        refine (CO.out w1 B1.out).mono ?_
        rintro e w2 ⟨rfl, b2⟩
        have B2 := Lib.hid (B1.out.trans (b2.mono B1.out.size))
        clear b2
        go_wp2
        go_ret
        exact ⟨Kit.ret_int Hf.out.symm, HBC.out.trans (B2.out.mono HBC.out.size)⟩
    | true =>
      obtain ⟨ox, oy, oall⟩ := Mp.ok_all HB1.out.symm
      have x24 := Tr.len24 ox
      have y24 := Tr.len24 oy
      have HOA := Lib.hid oall
      have hln := HN.out
      have hln' := HN'.out
      obtain ⟨ad, rfl, _⟩ := HA.out.at_ (k := 0) (by omega)
      obtain ⟨bd, rfl, _⟩ := HB.out.at_ (k := 0) (by omega)
      have Hf := Lib.hid (show Mp.cost xs ys k ms = Mp.part xs ys k ms ms.length by unfold Mp.cost; rw [← HB1.out, ← HB2.out]; rfl)
      have HL := Lib.hid hln
      have HL' := Lib.hid hln'
      have X := Lib.hid x24
      have Y := Lib.hid y24
      clear ox oy oall x24 y24 hln hln'
      go_enter Try.func51, Try.ntmps51
      go_wp2_with fail
      rw [← HWC.out]
      (try go_wp2_with fail)
      refine CM.out.mono ?_
      rintro e w1 ⟨rfl, b1⟩
      have B1 := Lib.hid b1
      clear b1
      obtain ⟨q0, q1, q2⟩ := HBX.out w1 B1.out
      go_wp2_with fail
      clear q0 q1 q2
      refine (CO.out w1 B1.out).mono ?_
      rintro e w2 ⟨rfl, b2⟩
      have B2 := Lib.hid (B1.out.trans (b2.mono B1.out.size))
      clear b2
      go_wp2
      go_loopw [9, 10] (fun sv iv wr => ∃ i : Nat, i ≤ n ∧ iv = .int .i64 i ∧ sv = .int .i64 (Mp.sum (Mp.gx xs ys k ms) i) ∧ Below wc.heap.size wc wr) (fun _ iv _ => n - (intOf iv).toNat)
      case atStart => exact ⟨0, by omega, rfl, rfl, B2.out⟩
      case round =>
        obtain ⟨i, hi, rfl, rfl, hR⟩ := hrel
        have HR := Lib.hid hR
        clear hR
        by_cases hlt : i < n
        · have bd1 := Mp.sum_bound (f := Mp.gx xs ys k ms) Mp.gx_bound i
          have bd2 := Mp.gx_bound (xs := xs) (ys := ys) (ms := ms) (k := k) i
          have hst : Mp.sum (Mp.gx xs ys k ms) (i + 1) = Mp.sum (Mp.gx xs ys k ms) i + Mp.gx xs ys k ms i := rfl
          have hof := Mp.of_at (k := k) HB1.out.symm i
          obtain ⟨s, hs⟩ : ∃ s, s = Mp.sum (Mp.gx xs ys k ms) i := ⟨_, rfl⟩
          obtain ⟨g, hg⟩ : ∃ g, g = Mp.gx xs ys k ms i := ⟨_, rfl⟩
          have HX := X.out
          have HLX := HL.out
          rw [← hs] at bd1 hst
          rw [← hg] at bd2 hst
          have a1 : IntKind.i64.wrap (s + g) = s + g := Kit.w64 (by omega) (by omega)
          have k0 : (0 : Int) ≤ (i : Int) := by omega
          have k1 : (i : Int) < (n : Int) := by omega
          have HST := Lib.hid hst
          have HG := Lib.hid hg
          rw [← hs]
          clear hst hs bd1 bd2 hg
          rcases hof with ⟨e1, e2⟩ | ⟨b, hb, e1, e2⟩
          · have CF := Lib.hid (show Calls Try.prog 75 #[.slice A'' n'' c'', .int .i64 i] wr fun e w' => e = .returned (.int .i64 (-1)) ∧ Drawn wr w' from by rw [← e1]; exact l10Of_any A'' n'' c'' ms i wr (HM.out.to_below HR.out) hn'')
            have hg2 : g = Co.del k (Tr.l xs i) := HG.out.trans e2
            have CC := Lib.hid (fun (wq : World) (hq : Below wc.heap.size wc wq) => show Calls Try.prog 76 #[.agg #[.slice K0 n0 c0, .slice K1 n1 c1, .slice K2 n2 c2], .int .i64 (Tr.l xs i)] wq fun e w' => e = .returned (.int .i64 g) ∧ Below wq.heap.size wq w' from by rw [hg2]; exact CD.out _ wq hq)
            clear e1 e2 hg2
            as_aux_lemma =>
              go_wp2_with fail
              refine CF.out.mono ?_
              rintro e w3 ⟨rfl, d3⟩
              have H3 := Lib.hid (HR.out.trans (d3.toBelow.mono HR.out.size))
              have CC := Lib.hid (fun (wq : World) (hq : Below w3.heap.size w3 wq) => CC.out wq (H3.out.trans (hq.mono H3.out.size)))
              clear d3
              have lc := ((HA.out.to_below H3.out).here (k := i) hlt).1
              obtain ⟨bx0, bx1, bx2⟩ := HBX.out w3 H3.out
              have S0 := Lib.hid (show ((w3.drew.cell? ⟨w.heap.size, 0, none⟩ = some (.slice K0 n0 c0) ∧ w3.drew.cell? ⟨w.heap.size, 1, none⟩ = some (.slice K1 n1 c1) ∧ w3.drew.cell? ⟨w.heap.size, 2, none⟩ = some (.slice K2 n2 c2)) ∧ (w3.drew.cell? (ad.add (i * 2)) = some (.int .i64 (Tr.l xs i)) ∧ w3.drew.cell? (ad.add (i * 2)) = some (.int .i64 (Tr.l xs i)))) ∧ BelA w3 w3.drew from ⟨⟨⟨bx0, bx1, bx2⟩, lc, lc⟩, (Drawn.refl _).drew.toBelow⟩)
              clear bx0 bx1 bx2
              go_wp2_with fail
              go_region_held3 (fun wq => ((wq.cell? ⟨w.heap.size, 0, none⟩ = some (.slice K0 n0 c0) ∧ wq.cell? ⟨w.heap.size, 1, none⟩ = some (.slice K1 n1 c1) ∧ wq.cell? ⟨w.heap.size, 2, none⟩ = some (.slice K2 n2 c2)) ∧ (wq.cell? (ad.add (i * 2)) = some (.int .i64 (Tr.l xs i)) ∧ wq.cell? (ad.add (i * 2)) = some (.int .i64 (Tr.l xs i)))) ∧ BelA w3 wq) (first | (with_reducible exact SC) | (with_reducible exact S0.out)) (first | ((go_at_call 76; with_reducible refine (CC.out _ (fv_below (by assumption))).mono ?_); rintro e w5 ⟨rfl, hb5⟩; have SC := fv_keep (by assumption) hb5))
              have HR2 := Lib.hid (H3.out.trans ((fv_below SC).mono H3.out.size))
              go_wp2
              go_roundw
              case rel => exact ⟨i + 1, by omega, by go_num, by rw [HST.out], HR2.out⟩
              case measure => simp [intOf]; omega
          · have CF := Lib.hid (show Calls Try.prog 75 #[.slice A'' n'' c'', .int .i64 i] wr fun e w' => e = .returned (.int .i64 b) ∧ Drawn wr w' from by rw [← e1]; exact l10Of_any A'' n'' c'' ms i wr (HM.out.to_below HR.out) hn'')
            have hg2 : g = Co.rel k (Tr.l xs i) (Tr.l ys b) := HG.out.trans e2
            have CC := Lib.hid (fun (wq : World) (hq : Below wc.heap.size wc wq) => show Calls Try.prog 77 #[.agg #[.slice K0 n0 c0, .slice K1 n1 c1, .slice K2 n2 c2], .int .i64 (Tr.l xs i), .int .i64 (Tr.l ys b)] wq fun e w' => e = .returned (.int .i64 g) ∧ Below wq.heap.size wq w' from by rw [hg2]; exact CR.out _ _ wq hq)
            have HLY := HL'.out
            have k2 : (0 : Int) ≤ (b : Int) := by omega
            have k3 : (b : Int) < (n' : Int) := by omega
            have k4 : b < n' := by omega
            have f1 : decide ((b : Int) < 0) = false := decide_eq_false (by omega)
            clear e1 e2 hg2
            as_aux_lemma =>
              go_wp2_with fail
              refine CF.out.mono ?_
              rintro e w3 ⟨rfl, d3⟩
              have H3 := Lib.hid (HR.out.trans (d3.toBelow.mono HR.out.size))
              have CC := Lib.hid (fun (wq : World) (hq : Below w3.heap.size w3 wq) => CC.out wq (H3.out.trans (hq.mono H3.out.size)))
              clear d3
              have lc := ((HA.out.to_below H3.out).here (k := i) hlt).1
              have lc2 := ((HB.out.to_below H3.out).here (k := b) k4).1
              obtain ⟨bx0, bx1, bx2⟩ := HBX.out w3 H3.out
              have S0 := Lib.hid (show ((w3.drew.cell? ⟨w.heap.size, 0, none⟩ = some (.slice K0 n0 c0) ∧ w3.drew.cell? ⟨w.heap.size, 1, none⟩ = some (.slice K1 n1 c1) ∧ w3.drew.cell? ⟨w.heap.size, 2, none⟩ = some (.slice K2 n2 c2)) ∧ (w3.drew.cell? (ad.add (i * 2)) = some (.int .i64 (Tr.l xs i)) ∧ w3.drew.cell? (bd.add (b * 2)) = some (.int .i64 (Tr.l ys b)))) ∧ BelA w3 w3.drew from ⟨⟨⟨bx0, bx1, bx2⟩, lc, lc2⟩, (Drawn.refl _).drew.toBelow⟩)
              clear bx0 bx1 bx2
              go_wp2_with fail
              go_region_held3 (fun wq => ((wq.cell? ⟨w.heap.size, 0, none⟩ = some (.slice K0 n0 c0) ∧ wq.cell? ⟨w.heap.size, 1, none⟩ = some (.slice K1 n1 c1) ∧ wq.cell? ⟨w.heap.size, 2, none⟩ = some (.slice K2 n2 c2)) ∧ (wq.cell? (ad.add (i * 2)) = some (.int .i64 (Tr.l xs i)) ∧ wq.cell? (bd.add (b * 2)) = some (.int .i64 (Tr.l ys b)))) ∧ BelA w3 wq) (first | (with_reducible exact SC) | (with_reducible exact S0.out)) (first | ((go_at_call 77; with_reducible refine (CC.out _ (fv_below (by assumption))).mono ?_); rintro e w5 ⟨rfl, hb5⟩; have SC := fv_keep (by assumption) hb5))
              have HR2 := Lib.hid (H3.out.trans ((fv_below SC).mono H3.out.size))
              go_wp2
              go_roundw
              case rel => exact ⟨i + 1, by omega, by go_num, by rw [HST.out], HR2.out⟩
              case measure => simp [intOf]; omega
        · obtain rfl : i = n := by omega
          obtain ⟨sx, hsx⟩ : ∃ sx, sx = Mp.sum (Mp.gx xs ys k ms) i := ⟨_, rfl⟩
          have bx := Mp.sum_bound (f := Mp.gx xs ys k ms) Mp.gx_bound i
          rw [← hsx] at bx ⊢
          have HX := X.out
          have HLX := HL.out
          have BX := Lib.hid (show 0 ≤ sx ∧ sx ≤ 24000 by omega)
          have HSX := Lib.hid (show Mp.sum (Mp.gx xs ys k ms) xs.length = sx by rw [HL.out]; exact hsx.symm)
          clear hsx bx hlt hi HX HLX
          go_wp2
          go_loopw [9, 12] (fun sv iv wr => ∃ j : Nat, j ≤ n' ∧ iv = .int .i64 j ∧ sv = .int .i64 (sx + Mp.sum (Mp.gy ys k ms) j) ∧ Below wc.heap.size wc wr) (fun _ iv _ => n' - (intOf iv).toNat)
          case atStart => exact ⟨0, by omega, rfl, by simp [Mp.sum], HR.out⟩
          case round =>
            clear HR
            obtain ⟨j, hj, rfl, rfl, hR⟩ := hrel
            have HR := Lib.hid hR
            clear hR
            by_cases hlt : j < n'
            · have bd1 := Mp.sum_bound (f := Mp.gy ys k ms) Mp.gy_bound j
              have bd2 := Mp.gy_bound (ys := ys) (ms := ms) (k := k) j
              have hst : sx + Mp.sum (Mp.gy ys k ms) (j + 1) = sx + Mp.sum (Mp.gy ys k ms) j + Mp.gy ys k ms j := (Int.add_assoc _ _ _).symm
              have hof := Mp.back_at (k := k) HB1.out.symm j
              obtain ⟨s, hs⟩ : ∃ s, s = sx + Mp.sum (Mp.gy ys k ms) j := ⟨_, rfl⟩
              obtain ⟨g, hg⟩ : ∃ g, g = Mp.gy ys k ms j := ⟨_, rfl⟩
              have HX := Y.out
              have HLX := HL'.out
              have HBX0 := BX.out
              have bd3 : 0 ≤ s ∧ s ≤ 48000 := by omega
              rw [← hs] at hst
              rw [← hg] at bd2 hst
              have a1 : IntKind.i64.wrap (s + g) = s + g := Kit.w64 (by omega) (by omega)
              have k0 : (0 : Int) ≤ (j : Int) := by omega
              have k1 : (j : Int) < (n' : Int) := by omega
              have HST := Lib.hid hst
              have HG := Lib.hid hg
              rw [← hs]
              clear hst hs bd1 bd2 bd3 hg HBX0
              rcases hof with ⟨e1, e2⟩ | ⟨b, e1, e2⟩
              · have CF := Lib.hid (show Calls Try.prog 78 #[.slice A'' n'' c'', .int .i64 j] wr fun e w' => e = .returned (.int .i64 (-1)) ∧ Drawn wr w' from by rw [← e1]; exact l10Back_any A'' n'' c'' ms j wr (HM.out.to_below HR.out) hn'')
                have hg2 : g = Co.ins k (Tr.l ys j) := HG.out.trans e2
                have CC := Lib.hid (fun (wq : World) (hq : Below wc.heap.size wc wq) => show Calls Try.prog 79 #[.agg #[.slice K0 n0 c0, .slice K1 n1 c1, .slice K2 n2 c2], .int .i64 (Tr.l ys j)] wq fun e w' => e = .returned (.int .i64 g) ∧ Below wq.heap.size wq w' from by rw [hg2]; exact CI.out _ wq hq)
                clear e1 e2 hg2
                as_aux_lemma =>
                  go_wp2_with fail
                  refine CF.out.mono ?_
                  rintro e w3 ⟨rfl, d3⟩
                  have H3 := Lib.hid (HR.out.trans (d3.toBelow.mono HR.out.size))
                  have CC := Lib.hid (fun (wq : World) (hq : Below w3.heap.size w3 wq) => CC.out wq (H3.out.trans (hq.mono H3.out.size)))
                  clear d3
                  have lc := ((HB.out.to_below H3.out).here (k := j) hlt).1
                  obtain ⟨bx0, bx1, bx2⟩ := HBX.out w3 H3.out
                  have S0 := Lib.hid (show ((w3.drew.cell? ⟨w.heap.size, 0, none⟩ = some (.slice K0 n0 c0) ∧ w3.drew.cell? ⟨w.heap.size, 1, none⟩ = some (.slice K1 n1 c1) ∧ w3.drew.cell? ⟨w.heap.size, 2, none⟩ = some (.slice K2 n2 c2)) ∧ (w3.drew.cell? (bd.add (j * 2)) = some (.int .i64 (Tr.l ys j)) ∧ w3.drew.cell? (bd.add (j * 2)) = some (.int .i64 (Tr.l ys j)))) ∧ BelA w3 w3.drew from ⟨⟨⟨bx0, bx1, bx2⟩, lc, lc⟩, (Drawn.refl _).drew.toBelow⟩)
                  clear bx0 bx1 bx2
                  go_wp2_with fail
                  go_region_held3 (fun wq => ((wq.cell? ⟨w.heap.size, 0, none⟩ = some (.slice K0 n0 c0) ∧ wq.cell? ⟨w.heap.size, 1, none⟩ = some (.slice K1 n1 c1) ∧ wq.cell? ⟨w.heap.size, 2, none⟩ = some (.slice K2 n2 c2)) ∧ (wq.cell? (bd.add (j * 2)) = some (.int .i64 (Tr.l ys j)) ∧ wq.cell? (bd.add (j * 2)) = some (.int .i64 (Tr.l ys j)))) ∧ BelA w3 wq) (first | (with_reducible exact SC) | (with_reducible exact S0.out)) (first | ((go_at_call 79; with_reducible refine (CC.out _ (fv_below (by assumption))).mono ?_); rintro e w5 ⟨rfl, hb5⟩; have SC := fv_keep (by assumption) hb5))
                  have HR2 := Lib.hid (H3.out.trans ((fv_below SC).mono H3.out.size))
                  go_wp2
                  go_roundw
                  case rel => exact ⟨j + 1, by omega, by go_num, by rw [HST.out], HR2.out⟩
                  case measure => simp [intOf]; omega
              · have CF := Lib.hid (show Calls Try.prog 78 #[.slice A'' n'' c'', .int .i64 j] wr fun e w' => e = .returned (.int .i64 b) ∧ Drawn wr w' from by rw [← e1]; exact l10Back_any A'' n'' c'' ms j wr (HM.out.to_below HR.out) hn'')
                have HS2 := Lib.hid (show sx + Mp.sum (Mp.gy ys k ms) (j + 1) = s by rw [HST.out, HG.out, e2, Int.add_zero])
                have f1 : decide ((b : Int) < 0) = false := decide_eq_false (by omega)
                clear e1 e2
                as_aux_lemma =>
                  go_wp2_with fail
                  refine CF.out.mono ?_
                  rintro e w3 ⟨rfl, d3⟩
                  have H3 := Lib.hid (HR.out.trans (d3.toBelow.mono HR.out.size))
                  clear d3
                  go_wp2
                  go_roundw
                  case rel => exact ⟨j + 1, by omega, by go_num, by rw [HS2.out], H3.out⟩
                  case measure => simp [intOf]; omega
            · obtain rfl : j = n' := by omega
              have Hg := Lib.hid (show Mp.cost xs ys k ms = sx + Mp.sum (Mp.gy ys k ms) j by rw [Hf.out, Mp.part_all, HSX.out, HL'.out])
              go_wp2
              go_ret
              exact ⟨Kit.ret_int Hg.out.symm, HBC.out.trans (HR.out.mono HBC.out.size)⟩

end Go.Proofs.Ytnfjdlocmdgefaa
