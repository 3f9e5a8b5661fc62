/- Texts of one claim laid into one file, in build order: MoreS, RwM, AmL. -/
import Derived.Test.YtnfjdlocmdgefaaEa16
import Derived.Test.YtnfjdlocmdgefaaEa19
import Derived.Test.YtnfjdlocmdgefaaEa2
import Derived.Test.YtnfjdlocmdgefaaEa20
import Derived.Test.YtnfjdlocmdgefaaEa5
import Derived.Test.YtnfjdlocmdgefaaEa6
import Derived.Outline
import Derived.Test.YtnfjdlocmdgefaaRows
/- Contracts (MoreS). -/
namespace Go.Proofs.Ytnfjdlocmdgefaa
open Go.RowKit
set_option linter.unusedVariables false


theorem info_prM : (Try.prog.info? 77).map (fun i => (i.zero, i.size, i.bytes)) = some (some (.agg #[.int .i64 0, .int .i64 0]), 2, 16) := by kernel_rfl
theorem info_psM : (Try.prog.info? 36).map (fun i => (i.zero, i.size, i.bytes)) = some (some (.slice none 0 0), 1, 24) := by kernel_rfl
/-- the answer: rows of pairs of the call's own -/
def OwnRows (ms : List Tr) (w : World) (e : Ending) (w' : World) : Prop := ∃ v vs, e = .returned v ∧ RowsP w' w.heap.size v vs ms ∧ Below w.heap.size w w'
theorem row_src {w : World} {base n : Nat} {vs : List Value} {ad : Addr} {c : Nat} {e : TypeId} (h : w.ownsRow base e 1 (.slice (some ad) n c) n vs) : ∀ j u, vs[j]? = some u → w.cell? (ad.add j) = some u := by
  rcases h.2 with ⟨h1, _⟩ | ⟨g, cap, cur, hv, _, hg, hn, _, hs, ht⟩
  · cases h1
  · cases hv
    intro j u hj
    have hjn : j < n := by have := (List.getElem?_eq_some_iff.1 hj).1; rw [h.1] at this; omega
    rw [← ht, List.getElem?_take] at hj
    rw [if_pos (by omega)] at hj
    have ha : (⟨g, 0, none⟩ : Addr).add j = ⟨g, j, none⟩ := by simp only [Addr.add]; split <;> simp_all
    rw [ha]
    simpa [World.cell?, hg] using hj
theorem own_cells1 {w : World} {base k : Nat} {v : Value} {e : TypeId} {xs : List Value} (h : w.ownsRow base e 2 v (0 + k) ([] ++ xs)) : w.ownsRow base e 2 v k xs := by simpa using h
set_option maxHeartbeats 800000 in
set_option maxRecDepth 100000 in
theorem specMore_any {xs ys : Tr} {A A' : Option Addr} {n n' c c' : Nat} (hx : Tr.ok xs = true) (hy : Tr.ok ys = true) (hn : n = xs.length) (hn' : n' = ys.length) (hx5 : n ≤ 5) (hy5 : n' ≤ 5) (r : Nat) :
    ∀ (x k cm : Nat) (ad : Addr) (i : Int) (ms : Tr) (W : World), x + r = n → 1 ≤ x → i = (x : Int) → k ≤ x → 1 ≤ k → NdIn W W.heap.size A n xs → NdIn W W.heap.size A' n' ys → NdIn W W.heap.size (some ad) k ms →
    Calls Try.prog 44 #[.slice A n c, .slice A' n' c', .slice (some ad) k cm, .int .i64 i] W (OwnRows (Am.more xs ys r ms) W) := by
  obtain ⟨i0, hi, hz0, hz1, hz2⟩ := info_parts info_prM
  obtain ⟨i1, hj, hy0, hy1, hy2⟩ := info_parts info_psM
  have y1 : 1 ≤ n' := by rw [hn']; exact (Tr.len24 hy).1
  induction r with
  | zero =>
    intro x k cm ad i ms W hxr hx1 hi' hkx hk1 hA hB hM
    obtain rfl : x = n := by omega
    subst hi'
    have HM := Lib.hid hM
    have HL := Lib.hid hM.1
    clear hA hB hM hx hy hn hn'
    have c0 := Lib.hid (NdIn.cells_at (HM.out.to_below ((Below.refl _ _).alloc (Nat.le_refl _) (.cells #[] 77))))
    go_enter Try.func44, Try.ntmps44
    go_wp2_with (at_builtin; refine wpList_append_own (World.alloc W (.cells #[] 77)) rfl _ _ 36 rfl W.heap.size 77 i0 (.agg #[.int .i64 0, .int .i64 0]) 2 16 Try.underlying36 hi hz0 hz1 hz2 rfl (by omega) (.slice (some ⟨W.heap.size, 0, none⟩) 0 0) 0 [] rfl (World.ownsRow_lit W #[] 0 (Nat.le_refl _) (Nat.zero_le _) rfl) ad k cm (Tr.cells ms) rfl (by rw [Tr.cells_length, HL.out]) c0.out (Tr.cells_cell ms) (by unfold maxLen; omega) (by omega) (by simp) ?_; intro v' w1 hown1 hgrow1 hnil1; obtain ⟨A9, c9, rfl⟩ := own_slice hown1; have HO := Lib.hid hown1; have HG := Lib.hid hgrow1; clear hown1 hgrow1 hnil1)
    go_ret
    have ho : w1.ownsRow W.heap.size 77 2 (.slice A9 k c9) ms.length (Tr.cells ms) := by have := HO.out; rw [HL.out]; simpa using this
    have hb : Below W.heap.size W w1 := ((Below.refl W.heap.size W).alloc (Nat.le_refl _) _).grown HG.out (by simp) (fun k hk => by simp [Value.ownBlock] at hk; omega)
    exact ⟨_, _, rfl, RowsP.one hb.size ho, hb.alloc hb.size _⟩
  | succ r ih =>
    intro x k cm ad i ms W hxr hx1 hi' hkx hk1 hA hB hM
    subst hi'
    have e1 : ((xs.length - (r + 1) : Nat) : Int) = (x : Int) := by omega
    have LB : ∀ y, y ≤ n' → (Am.more xs ys r ms ++ Am.upto xs ys r ms y).length ≤ 3125 := fun y hy' => by
      have := (Am.upto_pre (xs := xs) (ys := ys) (r := r) (m := ms) y (ys.length - y)).length_le
      rw [show y + (ys.length - y) = ys.length by omega] at this
      have a := (Am.more_len (xs := xs) (ys := ys) (by omega) (r + 1) ms).2
      rw [Am.more_upto, List.length_append] at a
      have b : ys.length ^ (r + 1) ≤ 5 ^ (r + 1) := Nat.pow_le_pow_left (by omega) _
      have c : 5 ^ (r + 1) ≤ 5 ^ 5 := Nat.pow_le_pow_right (by decide) (by omega)
      have d : 5 ^ 5 = 3125 := by decide
      rw [List.length_append]
      omega
    have C1 := Lib.hid ((ih (x + 1) k cm ad ((x : Int) + 1) ms W (by omega) (by omega) (by omega) (by omega) hk1 hA hB hM).mono (R' := fun e w' => ∃ v vs, e = .returned v ∧ Hid (RowsP w' W.heap.size v vs (Am.more xs ys r ms ++ Am.upto xs ys r ms 1) ∧ Below W.heap.size W w')) (by
      rintro e w' ⟨v, vs, he, h, hb⟩
      rw [Am.upto_one, List.append_nil]
      exact ⟨v, vs, he, Lib.hid ⟨h, hb⟩⟩))
    have hxr2 : r + 1 ≤ n := by omega
    -- MapOk of a longer mapping, in a later world
    have MKf : ∀ (y : Nat) (wq : World) (v2 : Value), Below W.heap.size W wq → wq.ownsRow W.heap.size 77 2 v2 (k + 1) (Tr.cells ms ++ Tr.cells [((x : Int), (y : Int))]) →
        ∃ a2 c2, v2 = .slice (some a2) (k + 1) c2 ∧ NdIn wq wq.heap.size (some a2) (k + 1) (ms ++ [((x : Int), (y : Int))]) ∧ Calls Try.prog 14 #[.slice A n c, .slice A' n' c', .slice (some a2) (k + 1) c2] wq fun e w' => e = .returned (.bool (Mp.ok xs ys (ms ++ [((x : Int), (y : Int))]))) ∧ Hid (Below wq.heap.size wq w') := fun y wq v2 hb ho => by
      obtain ⟨A2, c2, rfl⟩ := own_slice ho
      obtain ⟨g2, rfl, _, _⟩ := own_form ho (by omega)
      rw [← Tr.cells_append] at ho
      have nd : NdIn wq wq.heap.size (some ⟨g2, 0, none⟩) (k + 1) (ms ++ [((x : Int), (y : Int))]) := NdIn.of_own ho
      exact ⟨_, _, rfl, nd, (specMapOk_any A A' (some ⟨g2, 0, none⟩) n n' (k + 1) c c' c2 xs ys _ wq (hA.to_below hb) (hB.to_below hb) nd (by omega) (by omega) (by omega)).mono fun e w' h => ⟨h.1, Lib.hid h.2.toBelow⟩⟩
    -- the call of itself, in a later world
    have MRf : ∀ (y : Nat) (wq : World) (a2 : Addr) (c2 : Nat), Below W.heap.size W wq → NdIn wq wq.heap.size (some a2) (k + 1) (ms ++ [((x : Int), (y : Int))]) →
        Calls Try.prog 44 #[.slice A n c, .slice A' n' c', .slice (some a2) (k + 1) c2, .int .i64 ((x : Int) + 1)] wq fun e w' => ∃ g3 m3 c3 vs3, e = .returned (.slice (some ⟨g3, 0, none⟩) m3 c3) ∧ Hid (vs3.length = m3 ∧ RowsP w' wq.heap.size (.slice (some ⟨g3, 0, none⟩) m3 c3) vs3 (Am.more xs ys r (ms ++ [((x : Int), (y : Int))])) ∧ Below wq.heap.size wq w' ∧ w'.ownsRow wq.heap.size 36 1 (.slice (some ⟨g3, 0, none⟩) m3 c3) m3 vs3) := fun y wq a2 c2 hb nd =>
      (ih (x + 1) (k + 1) c2 a2 ((x : Int) + 1) (ms ++ [((x : Int), (y : Int))]) wq (by omega) (by omega) (by omega) (by omega) (by omega) (hA.to_below hb) (hB.to_below hb) nd).mono (by
        rintro e w' ⟨v, vs, rfl, h, hb'⟩
        obtain ⟨A3, c3, rfl⟩ := own_slice h.1
        have l1 := (Am.more_len (xs := xs) (ys := ys) (by omega) r (ms ++ [((x : Int), (y : Int))])).1
        obtain ⟨g3, rfl, _, _⟩ := own_form h.1 (by have := h.2.1; omega)
        exact ⟨g3, vs.length, c3, vs, rfl, Lib.hid ⟨rfl, h, hb', h.1⟩⟩)
    have UPy : ∀ y : Nat, 1 ≤ y → Mp.ok xs ys (ms ++ [((x : Int), (y : Int))]) = true → Am.more xs ys r ms ++ Am.upto xs ys r ms (y + 1) = (Am.more xs ys r ms ++ Am.upto xs ys r ms y) ++ Am.more xs ys r (ms ++ [((x : Int), (y : Int))]) := fun y h1 hf => by
      rw [Am.upto_succ h1, e1, if_pos hf, ← List.append_assoc]
    have UPn : ∀ y : Nat, 1 ≤ y → Mp.ok xs ys (ms ++ [((x : Int), (y : Int))]) = false → Am.more xs ys r ms ++ Am.upto xs ys r ms (y + 1) = Am.more xs ys r ms ++ Am.upto xs ys r ms y := fun y h1 hf => by
      rw [Am.upto_succ h1, e1, if_neg (by rw [hf]; exact Bool.false_ne_true), List.append_nil]
    have EN : Am.more xs ys r ms ++ Am.upto xs ys r ms n' = Am.more xs ys (r + 1) ms := by rw [hn', Am.more_upto]
    have MKh := Lib.hid MKf
    have MRh := Lib.hid MRf
    have UPyh := Lib.hid UPy
    have UPnh := Lib.hid UPn
    have HEN := Lib.hid EN
    have HLB := Lib.hid LB
    have HM := Lib.hid hM
    have HL := Lib.hid hM.1
    clear MKf MRf UPy UPn EN LB ih hA hB hM e1 hx hy
    have q1 : ((x : Int) == (n : Int)) = false := by rw [beq_eq_false_iff_ne]; omega
    have w1 : IntKind.i64.wrap ((x : Int) + 1) = (x : Int) + 1 := Kit.w64 (by omega) (by omega)
    have x30 : x ≤ 5 := by omega
    clear hn hn' hxr hxr2
    go_enter Try.func44, Try.ntmps44
    go_wp2_with (go_at_call 44; refine C1.out.mono ?_; clear C1; rintro e w2 ⟨v, vs, rfl, hs0⟩)
    go_loopw [10, 9] (fun kv ov wr => ∃ (y : Nat) (us : List Value), 1 ≤ y ∧ y ≤ n' ∧ kv = .int .i64 (y : Int) ∧ Hid (RowsP wr W.heap.size ov us (Am.more xs ys r ms ++ Am.upto xs ys r ms y) ∧ Below W.heap.size W wr)) (fun kv _ _ => n' - (intOf kv).toNat)
    case atStart => exact ⟨1, vs, Nat.le_refl _, y1, rfl, hs0⟩
    case round =>
      obtain ⟨y, us, hy1', hy2', hkv, hs⟩ := hrel
      subst hkv
      clear hs0
      by_cases hlt : y < n'
      · have HR := Lib.hid hs.out.1
        have HB := Lib.hid hs.out.2
        have HA0 := Lib.hid (NdIn.cells_at ((HM.out.to_below HB.out).to_below ((Below.refl _ _).alloc (Nat.le_refl _) (.cells #[] 77))))
        have MKy := Lib.hid (fun wq v2 hb ho => MKh.out y wq v2 hb ho)
        cases hf : Mp.ok xs ys (ms ++ [((x : Int), (y : Int))]) with
        | false =>
          have HU := Lib.hid (UPnh.out y hy1' hf)
          rw [hf] at MKy
          clear hf UPyh UPnh MRh MKh hs
          go_wp2_with (first
            | (at_builtin; refine wpList_append_own (World.alloc wr (.cells #[] 77)) rfl _ _ 36 rfl wr.heap.size 77 i0 (.agg #[.int .i64 0, .int .i64 0]) 2 16 Try.underlying36 hi hz0 hz1 hz2 rfl (by omega) (.slice (some ⟨wr.heap.size, 0, none⟩) 0 0) 0 [] rfl (World.ownsRow_lit wr #[] 0 (Nat.le_refl _) (Nat.zero_le _) rfl) ad k cm (Tr.cells ms) rfl (by rw [Tr.cells_length, HL.out]) HA0.out (Tr.cells_cell ms) (by unfold maxLen; omega) (by omega) (by simp) ?_; intro v1 w1 hown1 hgrow1 hnil1; have hb1 : Below wr.heap.size wr w1 := ((Below.refl wr.heap.size wr).alloc (Nat.le_refl _) _).grown hgrow1 (by simp) (fun q hq => by simp [Value.ownBlock] at hq; omega); have ho1 := own_cells1 hown1; obtain ⟨A9, c9, rfl⟩ := own_slice ho1; have HO1 := Lib.hid ho1; have HB1 := Lib.hid hb1; clear hown1 hgrow1 hnil1 hb1 ho1)
            | (at_builtin; refine wpList_append_own _ rfl _ _ 36 rfl wr.heap.size 77 i0 (.agg #[.int .i64 0, .int .i64 0]) 2 16 Try.underlying36 hi hz0 hz1 hz2 rfl (by omega) (.slice A9 k c9) k (Tr.cells ms) rfl (HO1.out.alloc _) ⟨w1.heap.size, 0, none⟩ 1 1 (Tr.cells [((x : Int), (y : Int))]) rfl rfl (two_new _ _ _ _) (Tr.cells_cell _) (by unfold maxLen; omega) (by omega) (by have := HB1.out.size; simp; omega) ?_; intro v2 w2 hown2 hgrow2 hnil2; have hb2 : Below wr.heap.size wr w2 := (HB1.out.alloc HB1.out.size _).grown hgrow2 (by have := HB1.out.size; simp; omega) (fun q hq => (HO1.out.lt q hq).1); obtain ⟨a2, c2, rfl, nd2, mk2⟩ := MKy.out w2 v2 (HB.out.trans (hb2.mono HB.out.size)) (own_base hown2 HB.out.size); have HND := Lib.hid nd2; have HMK := Lib.hid mk2; have HB2 := Lib.hid hb2; clear hown2 hgrow2 hnil2 nd2 mk2 hb2)
            | (go_at_call 14; refine HMK.out.mono ?_; rintro e w5 ⟨rfl, hb5⟩))
          go_roundw
          case rel =>
            refine ⟨y + 1, us, by omega, by omega, by go_num, ?_⟩
            rw [HU.out]
            have b5 : Below wr.heap.size wr w5 := HB2.out.trans (hb5.out.mono HB2.out.size)
            exact Lib.hid ⟨HR.out.below b5, HB.out.trans (b5.mono HB.out.size)⟩
          case measure => simp [intOf]; omega
        | true =>
          have HU := Lib.hid (UPyh.out y hy1' hf)
          have HL3 := Lib.hid (show (Am.more xs ys r ms ++ Am.upto xs ys r ms y).length + (Am.more xs ys r (ms ++ [((x : Int), (y : Int))])).length ≤ 3125 by
            have := HLB.out (y + 1) hlt
            rw [HU.out] at this
            rwa [List.length_append] at this)
          have MRy := Lib.hid (fun wq a2 c2 hb nd => MRh.out y wq a2 c2 hb nd)
          rw [hf] at MKy
          clear hf UPyh UPnh MRh MKh hs
          go_wp2_with (first
            | (at_builtin; refine wpList_append_own (World.alloc wr (.cells #[] 77)) rfl _ _ 36 rfl wr.heap.size 77 i0 (.agg #[.int .i64 0, .int .i64 0]) 2 16 Try.underlying36 hi hz0 hz1 hz2 rfl (by omega) (.slice (some ⟨wr.heap.size, 0, none⟩) 0 0) 0 [] rfl (World.ownsRow_lit wr #[] 0 (Nat.le_refl _) (Nat.zero_le _) rfl) ad k cm (Tr.cells ms) rfl (by rw [Tr.cells_length, HL.out]) HA0.out (Tr.cells_cell ms) (by unfold maxLen; omega) (by omega) (by simp) ?_; intro v1 w1 hown1 hgrow1 hnil1; have hb1 : Below wr.heap.size wr w1 := ((Below.refl wr.heap.size wr).alloc (Nat.le_refl _) _).grown hgrow1 (by simp) (fun q hq => by simp [Value.ownBlock] at hq; omega); have ho1 := own_cells1 hown1; obtain ⟨A9, c9, rfl⟩ := own_slice ho1; have HO1 := Lib.hid ho1; have HB1 := Lib.hid hb1; clear hown1 hgrow1 hnil1 hb1 ho1)
            | (at_builtin; refine wpList_append_own _ rfl _ _ 36 rfl wr.heap.size 77 i0 (.agg #[.int .i64 0, .int .i64 0]) 2 16 Try.underlying36 hi hz0 hz1 hz2 rfl (by omega) (.slice A9 k c9) k (Tr.cells ms) rfl (HO1.out.alloc _) ⟨w1.heap.size, 0, none⟩ 1 1 (Tr.cells [((x : Int), (y : Int))]) rfl rfl (two_new _ _ _ _) (Tr.cells_cell _) (by unfold maxLen; omega) (by omega) (by have := HB1.out.size; simp; omega) ?_; intro v2 w2 hown2 hgrow2 hnil2; have hb2 : Below wr.heap.size wr w2 := (HB1.out.alloc HB1.out.size _).grown hgrow2 (by have := HB1.out.size; simp; omega) (fun q hq => (HO1.out.lt q hq).1); obtain ⟨a2, c2, rfl, nd2, mk2⟩ := MKy.out w2 v2 (HB.out.trans (hb2.mono HB.out.size)) (own_base hown2 HB.out.size); have HND := Lib.hid nd2; have HMK := Lib.hid mk2; have HB2 := Lib.hid hb2; clear hown2 hgrow2 hnil2 nd2 mk2 hb2)
            | (go_at_call 14; refine HMK.out.mono ?_; rintro e w5 ⟨rfl, hb5⟩; have HB5 := Lib.hid (HB2.out.trans (hb5.out.mono HB2.out.size)))
            | (go_at_call 44; refine (MRy.out w5 a2 c2 (HB.out.trans (HB5.out.mono HB.out.size)) (HND.out.to_below hb5.out)).mono ?_; rintro e w6 ⟨g3, m3, c3, vs3, rfl, H6⟩; have HB6 := Lib.hid (HB5.out.trans (H6.out.2.2.1.mono HB5.out.size)); have HR6 := Lib.hid (HR.out.below HB6.out))
            | (at_builtin; (refine wpList_append_own _ rfl _ _ 30 rfl W.heap.size 36 i1 (.slice none 0 0) 1 24 Try.underlying30 hj hy0 hy1 hy2 rfl (by decide) u9 us.length us rfl HR6.out.1 ⟨g3, 0, none⟩ m3 c3 vs3 rfl (by rw [H6.out.1, Nat.mul_one]) (row_src H6.out.2.2.2) H6.out.2.1.ones (by unfold maxLen; have := HR6.out.2.1; have := HL3.out; have := H6.out.1; have := H6.out.2.1.2.1; omega) (by have := HR6.out.2.1; have := HL3.out; have := H6.out.1; have := H6.out.2.1.2.1; omega) (by have := HB.out.size; have := HB6.out.size; omega) ?_; intro v7 w7 hown7 hgrow7 hnil7; have H7 := Lib.hid (And.intro hown7 hgrow7); clear hown7 hgrow7 hnil7)))
          go_roundw
          case rel =>
            refine ⟨y + 1, us ++ vs3, by omega, by omega, by go_num, ?_⟩
            rw [HU.out]
            have b6 := HB6.out
            have sz5 := HB5.out.size
            have szr := HB.out.size
            refine Lib.hid ⟨RowsP.append HR6.out (H6.out.2.1.lower (by omega)) H7.out.2 (by rw [H6.out.1]; exact H7.out.1), ((HB.out.trans (b6.mono szr)).grown H7.out.2 (by have := b6.size; omega) (fun q hq => (HR6.out.1.lt q hq).1))⟩
          case measure => simp [intOf]; omega
      · obtain rfl : y = n' := by omega
        go_wp2
        go_ret
        exact ⟨_, us, rfl, by rw [← HEN.out]; exact hs.out.1, hs.out.2⟩

end Go.Proofs.Ytnfjdlocmdgefaa

/- Contracts (RwM). -/
namespace Go.Proofs.Ytnfjdlocmdgefaa
open Go.RowKit
set_option linter.unusedVariables false


/-- how many pairs the first i rows hold -/
def Rm.at (ms : List Tr) : Nat → Nat
  | 0 => 0
  | i + 1 => Rm.at ms i + (ms.getD i []).length
section
variable {w w' : World} {base i : Nat} {v : Value} {vs : List Value} {ms : List Tr} {k0 : Int}
theorem Rm.mono {j : Nat} (h : i ≤ j) : Rm.at ms i ≤ Rm.at ms j := by
  induction j with
  | zero => obtain rfl : i = 0 := by omega
            exact Nat.le_refl _
  | succ j ih =>
    rcases Nat.lt_or_ge i (j + 1) with h' | h'
    · have := ih (by omega)
      have e : Rm.at ms (j + 1) = Rm.at ms j + (ms.getD j []).length := rfl
      omega
    · obtain rfl : i = j + 1 := by omega
      exact Nat.le_refl _
theorem RowsP.cell {A : Option Addr} {m c : Nat} (h : RowsP w base (.slice A m c) vs ms) (hm : m = ms.length) (hi : i < ms.length) : ∃ g Ai ci, A = some ⟨g, 0, none⟩ ∧ base ≤ g ∧ vs.getD i undef = .slice Ai (ms.getD i []).length ci ∧
    w.cell? ⟨g, i, none⟩ = some (.slice Ai (ms.getD i []).length ci) ∧ w.ownsRow base 77 2 (.slice Ai (ms.getD i []).length ci) (ms.getD i []).length (Tr.cells (ms.getD i [])) := by
  have h1 := h.1
  have hl := h.2.1
  rw [show vs.length = m by omega] at h1
  obtain ⟨g, rfl, hb, _⟩ := own_form h1 (by omega)
  have r := h.2.2 i hi
  obtain ⟨Ai, ci, hv⟩ := own_slice r
  have c := row_src h1 i _ (List.getElem?_eq_getElem (by omega : i < vs.length))
  have ha : (⟨g, 0, none⟩ : Addr).add i = ⟨g, i, none⟩ := by simp only [Addr.add]; split <;> simp_all
  rw [ha] at c
  have e : vs[i]'(by omega) = vs.getD i undef := by rw [List.getD_eq_getElem?_getD, List.getElem?_eq_getElem (by omega : i < vs.length)]; rfl
  rw [e, hv] at c
  rw [hv] at r
  exact ⟨g, Ai, ci, rfl, hb, hv, c, r⟩
end

end Go.Proofs.Ytnfjdlocmdgefaa

/- Contracts (AmL). -/
namespace Go.Proofs.Ytnfjdlocmdgefaa
open Go.RowKit
set_option linter.unusedVariables false

/-- the least cost of the first i rows, -1 of none -/
def Am.out (xs ys : Tr) (k : Co) (l : List Tr) : Nat → Int
  | 0 => -1
  | i + 1 => if i = 0 ∨ Mp.cost xs ys k (l.getD i []) < Am.out xs ys k l i then Mp.cost xs ys k (l.getD i []) else Am.out xs ys k l i
def Am.least (xs ys : Tr) (k : Co) : Int := if (Tr.ok xs && Tr.ok ys && decide (xs.length ≤ 5) && decide (ys.length ≤ 5)) && Co.ok k then Tr.rootDist xs ys k else -1
section
variable {xs ys : Tr} {k : Co}
theorem Am.out_first (l : List Tr) : Am.out xs ys k l 1 = Mp.cost xs ys k (l.getD 0 []) := by rw [Am.out, if_pos (.inl rfl)]
theorem Am.out_min (l : List Tr) : ∀ i : Nat, (∀ j, j < i + 1 → Am.out xs ys k l (i + 1) ≤ Mp.cost xs ys k (l.getD j [])) ∧ ∃ j, j < i + 1 ∧ Am.out xs ys k l (i + 1) = Mp.cost xs ys k (l.getD j [])
  | 0 => by
    refine ⟨fun j hj => ?_, 0, by omega, Am.out_first l⟩
    obtain rfl : j = 0 := by omega
    rw [Am.out_first]
    exact Int.le_refl _
  | i + 1 => by
    obtain ⟨h1, j0, hj0, h2⟩ := Am.out_min l i
    rw [Am.out]
    by_cases c : i + 1 = 0 ∨ Mp.cost xs ys k (l.getD (i + 1) []) < Am.out xs ys k l (i + 1)
    · rw [if_pos c]
      refine ⟨fun j hj => ?_, i + 1, by omega, rfl⟩
      rcases Nat.lt_or_ge j (i + 1) with h | h
      · have := h1 j h
        omega
      · obtain rfl : j = i + 1 := by omega
        exact Int.le_refl _
    · rw [if_neg c]
      refine ⟨fun j hj => ?_, j0, by omega, h2⟩
      rcases Nat.lt_or_ge j (i + 1) with h | h
      · exact h1 j h
      · obtain rfl : j = i + 1 := by omega
        omega
theorem Am.all_yes (h : (Tr.ok xs && Tr.ok ys && decide (xs.length ≤ 5) && decide (ys.length ≤ 5)) = true) : Am.all xs ys = Am.more xs ys (xs.length - 1) [(0, 0)] := by rw [Am.all, if_pos h]
theorem Am.all_no (h : (Tr.ok xs && Tr.ok ys && decide (xs.length ≤ 5) && decide (ys.length ≤ 5)) = false) : Am.all xs ys = [] := by rw [Am.all, if_neg (by rw [h]; simp)]
theorem Am.start_ok (hx : Tr.ok xs = true) (hy : Tr.ok ys = true) : Mp.ok xs ys [(0, 0)] = true := by
  have x1 := (Tr.len24 hx).1
  have y1 := (Tr.len24 hy).1
  refine Mp.ok_iff.2 ⟨hx, hy, fun e he => ?_, List.pairwise_singleton _ _⟩
  obtain rfl := List.mem_singleton.1 he
  exact ⟨Tr.has_iff.2 ⟨hx, by dsimp only; omega, by dsimp only; omega⟩, Tr.has_iff.2 ⟨hy, by dsimp only; omega, by dsimp only; omega⟩⟩
/-- each of them: valid, root to root -/
theorem Am.all_ok {L : Tr} (hL : L ∈ Am.all xs ys) : Mp.ok xs ys L = true ∧ Tr.rooted L = true := by
  cases h : (Tr.ok xs && Tr.ok ys && decide (xs.length ≤ 5) && decide (ys.length ≤ 5)) with
  | false => rw [Am.all_no h] at hL; cases hL
  | true =>
    rw [Am.all_yes h] at hL
    simp only [Bool.and_eq_true] at h
    obtain ⟨h1, Z, rfl⟩ := Am.more_ok _ _ (Am.start_ok h.1.1.1 h.1.1.2) L hL
    exact ⟨h1, by simp [Tr.rooted, Tr.l, Tr.d]⟩
theorem Am.all_len : (Am.all xs ys).length ≤ 3125 := by
  cases h : (Tr.ok xs && Tr.ok ys && decide (xs.length ≤ 5) && decide (ys.length ≤ 5)) with
  | false => rw [Am.all_no h]; decide
  | true =>
    rw [Am.all_yes h]
    simp only [Bool.and_eq_true, decide_eq_true_eq] at h
    have a := (Am.more_len (xs := xs) (Tr.len24 h.1.1.2).1 (xs.length - 1) [(0, 0)]).2
    have b : ys.length ^ (xs.length - 1) ≤ 5 ^ (xs.length - 1) := Nat.pow_le_pow_left h.2 _
    have c : 5 ^ (xs.length - 1) ≤ 5 ^ 5 := Nat.pow_le_pow_right (by decide) (by omega)
    have d : 5 ^ 5 = 3125 := by decide
    omega
theorem Am.best_in (h : (Tr.ok xs && Tr.ok ys && decide (xs.length ≤ 5) && decide (ys.length ≤ 5)) = true) (hk : Co.ok k = true) : Bm.best xs ys k ∈ Am.all xs ys ∧ Mp.cost xs ys k (Bm.best xs ys k) = Tr.rootDist xs ys k := by
  rw [Am.all_yes h]
  simp only [Bool.and_eq_true] at h
  rw [Bm.best_yes (by unfold DOk; rw [h.1.1.1, h.1.1.2, hk]; rfl)]
  exact ⟨Am.has (Bm.best_ok h.1.1.1 h.1.1.2) (Bm.best_rooted h.1.1.1 h.1.1.2), Bm.best_cost h.1.1.1 h.1.1.2 hk⟩
theorem Am.out_all : Am.out xs ys k (Am.all xs ys) (Am.all xs ys).length = Am.least xs ys k := by
  unfold Am.least
  cases h : (Tr.ok xs && Tr.ok ys && decide (xs.length ≤ 5) && decide (ys.length ≤ 5)) with
  | false => rw [Am.all_no h]; rfl
  | true =>
    cases hk : Co.ok k with
    | false =>
      have hc : ∀ L : Tr, Mp.cost xs ys k L = -1 := fun L => by unfold Mp.cost; rw [hk, Bool.and_false]; rfl
      have : ∀ (l : List Tr) i, Am.out xs ys k l i = -1 := fun l i => by
        induction i with
        | zero => rfl
        | succ i ih =>
          rw [Am.out, hc, ih]
          split <;> rfl
      rw [this]
      rfl
    | true =>
      obtain ⟨b1, b2⟩ := Am.best_in h hk
      obtain ⟨n, hn⟩ : ∃ n, (Am.all xs ys).length = n + 1 := ⟨(Am.all xs ys).length - 1, by have := List.length_pos_of_mem b1; omega⟩
      rw [hn]
      obtain ⟨m1, j, hj, m2⟩ := Am.out_min (xs := xs) (ys := ys) (k := k) (Am.all xs ys) n
      obtain ⟨q, hq, e⟩ := List.getElem_of_mem b1
      have a := m1 q (by omega)
      rw [List.getD_eq_getElem?_getD, List.getElem?_eq_getElem hq, Option.getD_some, e, b2] at a
      have hjn : j < (Am.all xs ys).length := by omega
      have g := Am.all_ok (List.getElem_mem hjn)
      have lo := Lb.root g.1 g.2 hk
      rw [List.getD_eq_getElem?_getD, List.getElem?_eq_getElem hjn, Option.getD_some] at m2
      show _ = Tr.rootDist xs ys k
      omega
end

end Go.Proofs.Ytnfjdlocmdgefaa
