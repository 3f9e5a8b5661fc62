/- Texts of one claim laid into one file, in build order: Few, ApI, MpsI, Lcn, NdPt, NdTo. -/
import Derived.Test.YtnfjdlocmdgefaaEm1
import Derived.Test.YtnfjdlocmdgefaaEm12
import Derived.Test.YtnfjdlocmdgefaaEm15
import Derived.Test.YtnfjdlocmdgefaaEm16
import Derived.Test.YtnfjdlocmdgefaaEm17
import Derived.Test.YtnfjdlocmdgefaaEm4
import Derived.Test.YtnfjdlocmdgefaaEm6
import Derived.Laws.Entries
import Derived.Laws.MakeOwn
import Derived.Maps.AppendAt
import Derived.Maps.OwnIn
import Derived.Outline
import Derived.Test.YtnfjdlocmdgefaaRows
/- Contracts (Few). -/
namespace Go.Proofs.Ytnfjdlocmdgefaa
open Go.RowKit
set_option linter.unusedVariables false


def few (xs : Tr) : Bool := decide (xs.length ≤ 5) && Tr.ok xs
set_option maxHeartbeats 800000 in
set_option maxRecDepth 100000 in
theorem fewEnough_any (A : Option Addr) (n c : Nat) (xs : Tr) (w : World) (h : NdIn w w.heap.size A n xs) (hn : n ≤ 1048576) (hnc : n ≤ c) :
    Calls Try.prog 63 #[.slice A n c] w fun e w' => e = .returned (.bool (few xs)) ∧ Below w.heap.size w w' := by
  have H := Lib.hid h
  have HL := Lib.hid h.1
  clear h
  by_cases h5 : n ≤ 5
  · have HF := Lib.hid (show few xs = Tr.ok xs by unfold few; rw [decide_eq_true (by rw [HL.out]; exact h5)]; rfl)
    have hd : decide ((n : Int) ≤ 5) = true := by simp; omega
    go_enter Try.func63, Try.ntmps63
    go_wp2_with (go_at_call 69; refine (implTreeOk_any A n c xs w H.out hn hnc).mono ?_; rintro e w2 ⟨rfl, hb⟩)
    go_ret
    exact ⟨by rw [HF.out]; rfl, hb⟩
  · have HF := Lib.hid (show few xs = false by unfold few; rw [decide_eq_false (by rw [HL.out]; exact h5)]; rfl)
    have hd : decide ((n : Int) ≤ 5) = false := by simp; omega
    go_enter Try.func63, Try.ntmps63
    go_wp2_with fail
    go_ret
    exact ⟨by rw [HF.out]; rfl, Below.refl _ _⟩
theorem Am.all_few {xs ys : Tr} (hx : few xs = true) (hy : few ys = true) : Am.all xs ys = Am.more xs ys (xs.length - 1) [(0, 0)] := by
  unfold few at hx hy
  simp only [Bool.and_eq_true] at hx hy
  exact Am.all_yes (by rw [hx.1, hx.2, hy.1, hy.2]; rfl)
theorem Am.all_few_a {xs ys : Tr} (hx : few xs = false) : Am.all xs ys = [] := by
  refine Am.all_no ?_
  unfold few at hx
  cases h1 : decide (xs.length ≤ 5) <;> cases h2 : Tr.ok xs <;> simp_all
theorem Am.all_few_b {xs ys : Tr} (hy : few ys = false) : Am.all xs ys = [] := by
  refine Am.all_no ?_
  unfold few at hy
  cases h1 : decide (ys.length ≤ 5) <;> cases h2 : Tr.ok ys <;> simp_all
set_option maxHeartbeats 800000 in
set_option maxRecDepth 100000 in
theorem rooted_gives {xs ys : Tr} {A A' : Option Addr} {n n' c c' n0 : Nat} (B1 B2 : Nat) (w0 : World) (hA : NdIn w0 n0 A n xs) (hB : NdIn w0 n0 A' n' ys) (hn : n ≤ 1048576) (hn' : n' ≤ 1048576) (hc : n ≤ c) (hc' : n' ≤ c') (hn0 : n0 ≤ w0.heap.size)
    (h1 : w0.cell? ⟨B1, 0, none⟩ = some (.slice A n c)) (h2 : w0.cell? ⟨B2, 0, none⟩ = some (.slice A' n' c')) :
    GivesAll Try.prog 77 n0 62 #[.pointer (some ⟨B1, 0, none⟩), .pointer (some ⟨B2, 0, none⟩)] (Am.all xs ys) w0 := by
  intro l J M W hW hJ hI hY hj
  have l1 : B1 < w0.heap.size := World.block_lt_of_cell? _ _ h1
  have l2 : B2 < w0.heap.size := World.block_lt_of_cell? _ _ h2
  have hA1 : NdIn W n0 A n xs := hA.below (hW.mono hn0)
  have hB1 : NdIn W n0 A' n' ys := hB.below (hW.mono hn0)
  have g1 : W.cell? ⟨B1, 0, none⟩ = some (.slice A n c) := (hW.cell (p := ⟨B1, 0, none⟩) l1).trans h1
  have g2 : W.cell? ⟨B2, 0, none⟩ = some (.slice A' n' c') := (hW.cell (p := ⟨B2, 0, none⟩) l2).trans h2
  have m1 : B1 < W.heap.size := Nat.lt_of_lt_of_le l1 hW.size
  have m2 : B2 < W.heap.size := Nat.lt_of_lt_of_le l2 hW.size
  have sz : n0 ≤ W.heap.size := Nat.le_trans hn0 hW.size
  have F1 : ∀ wq, Below W.heap.size W wq → Calls Try.prog 63 #[.slice A n c] wq fun e w' => e = .returned (.bool (few xs)) ∧ Below W.heap.size W w' ∧ w'.cell? ⟨B1, 0, none⟩ = some (.slice A n c) ∧ w'.cell? ⟨B2, 0, none⟩ = some (.slice A' n' c') := fun wq hb =>
    (fewEnough_any A n c xs wq ((hA1.below (hb.mono sz)).more (Nat.le_trans sz hb.size)) hn hc).mono (by
      rintro e w' ⟨rfl, hb'⟩
      have hb2 := hb.trans (hb'.mono hb.size)
      exact ⟨rfl, hb2, (hb2.cell (p := ⟨B1, 0, none⟩) m1).trans g1, (hb2.cell (p := ⟨B2, 0, none⟩) m2).trans g2⟩)
  have F2 : ∀ wq, Below W.heap.size W wq → Calls Try.prog 63 #[.slice A' n' c'] wq fun e w' => e = .returned (.bool (few ys)) ∧ Below W.heap.size W w' ∧ w'.cell? ⟨B1, 0, none⟩ = some (.slice A n c) ∧ w'.cell? ⟨B2, 0, none⟩ = some (.slice A' n' c') := fun wq hb =>
    (fewEnough_any A' n' c' ys wq ((hB1.below (hb.mono sz)).more (Nat.le_trans sz hb.size)) hn' hc').mono (by
      rintro e w' ⟨rfl, hb'⟩
      have hb2 := hb.trans (hb'.mono hb.size)
      exact ⟨rfl, hb2, (hb2.cell (p := ⟨B1, 0, none⟩) m1).trans g1, (hb2.cell (p := ⟨B2, 0, none⟩) m2).trans g2⟩)
  have EC : few xs = true → few ys = true → ∀ wq, Below W.heap.size W wq → Calls Try.prog 64 #[.slice A n c, .slice A' n' c', .slice (some ⟨wq.heap.size, 0, none⟩) 1 1, .int .i64 1, .func (.yield l) #[] #[]] (wq.alloc (.cells #[.int .i64 0, .int .i64 0] 77)) fun e w' => e = .returned (.bool true) ∧ J (Am.all xs ys) M w' ∧ Below n0 W w' := fun hx hy wq hb => by
    have ha := Am.all_few hx hy
    unfold few at hx hy
    simp only [Bool.and_eq_true, decide_eq_true_eq] at hx hy
    have nx := hA.1
    have ny := hB.1
    have x1 := (Tr.len24 hx.2).1
    have hb2 : Below W.heap.size W (wq.alloc (.cells #[.int .i64 0, .int .i64 0] 77)) := hb.alloc hb.size _
    have hb3 : Below n0 W (wq.alloc (.cells #[.int .i64 0, .int .i64 0] 77)) := hb2.mono sz
    have szq := hb.size
    refine (extend_any (xs := xs) (ys := ys) (n0 := n0) (all := Am.all xs ys) hJ hY hx.2 hy.2 nx.symm ny.symm hc hc' (xs.length - 1) 1 1 wq.heap.size 1 1 [(0, 0)] [] (fun q => M q ∨ q = wq.heap.size) _ (by omega) (Nat.le_refl _) rfl rfl (Nat.le_refl _) (Nat.le_refl _) rfl (Am.start_ok hx.2 hy.2)
      (hA1.below hb3) (hB1.below hb3) ?_ (.inr rfl) (fun q e => ?_) (hJ _ _ _ _ _ none hj (grown_of_below hb2 none) (fun r e => by cases e) (fun b e => e.imp id (by rintro rfl; exact szq))) (by rw [List.nil_append, ha]; exact List.prefix_refl _) (Nat.le_trans sz hb2.size)).mono ?_
    · exact World.ownsRow_lit wq #[.int .i64 0, .int .i64 0] 1 (by omega) (by decide) rfl
    · have := hb2.size
      rcases e with e | rfl
      · exact ⟨(hI q e).1, Nat.lt_of_lt_of_le (hI q e).2 this⟩
      · exact ⟨by omega, by simp⟩
    · rintro e w' ⟨he, h1, _, h3, _⟩
      rw [List.nil_append, ← ha] at h1
      exact ⟨he, hJ _ _ _ _ _ none h1 (Kit.grown_refl _ _) (fun r e => by cases e) (fun b e => .inl (.inl e)), hb3.trans h3⟩
  have JN : ∀ wq, Below W.heap.size W wq → Am.all xs ys = [] → J (Am.all xs ys) M wq ∧ Below n0 W wq := fun wq hb he => by
    rw [he]
    exact ⟨hJ _ _ _ _ _ none hj (grown_of_below hb none) (fun r e => by cases e) (fun b e => .inl e), hb.mono sz⟩
  have HB0 := Lib.hid (Below.refl W.heap.size W)
  have HF1 := Lib.hid F1
  have HF2 := Lib.hid F2
  have HEC := Lib.hid EC
  have HJN := Lib.hid JN
  clear F1 F2 EC JN hj hI hY hJ hA1 hB1 hA hB h1 h2 hW l1 l2 m1 m2
  show Calls Try.prog 62 #[.func (.yield l) #[] #[], .pointer (some ⟨B1, 0, none⟩), .pointer (some ⟨B2, 0, none⟩)] W _
  cases hx : few xs with
  | false =>
    have HN := Lib.hid (Am.all_few_a (ys := ys) hx)
    rw [hx] at HF1
    clear hx HEC HF2
    go_enter Try.func62, Try.ntmps62
    go_wp2_with (go_at_call 63; refine (HF1.out _ HB0.out).mono ?_; rintro e w2 ⟨rfl, hb2, k1, k2⟩; have HB2 := Lib.hid hb2; clear hb2)
    refine bodyPost_end (results_none rfl _ _ _) rfl ?_
    exact ⟨⟨_, rfl⟩, HJN.out _ HB2.out HN.out⟩
  | true =>
    cases hy : few ys with
    | false =>
      have HN := Lib.hid (Am.all_few_b (xs := xs) hy)
      rw [hx] at HF1
      rw [hy] at HF2
      clear hx hy HEC
      go_enter Try.func62, Try.ntmps62
      go_wp2_with (go_at_call 63; first | (refine (HF1.out _ HB0.out).mono ?_; clear HF1; rintro e w2 ⟨rfl, hb2, k1, k2⟩; have HB2 := Lib.hid hb2; clear hb2) | (refine (HF2.out _ HB2.out).mono ?_; rintro e w3 ⟨rfl, hb3, k3, k4⟩; have HB3 := Lib.hid hb3; clear hb3))
      refine bodyPost_end (results_none rfl _ _ _) rfl ?_
      exact ⟨⟨_, rfl⟩, HJN.out _ HB3.out HN.out⟩
    | true =>
      have HEC2 := Lib.hid (HEC.out hx hy)
      rw [hx] at HF1
      rw [hy] at HF2
      clear hx hy HEC HJN
      go_enter Try.func62, Try.ntmps62
      go_wp2_with (first
        | (go_at_call 63; first | (refine (HF1.out _ HB0.out).mono ?_; clear HF1; rintro e w2 ⟨rfl, hb2, k1, k2⟩; have HB2 := Lib.hid hb2; clear hb2) | (refine (HF2.out _ HB2.out).mono ?_; rintro e w3 ⟨rfl, hb3, k3, k4⟩; have HB3 := Lib.hid hb3; clear hb3))
        | (go_at_call 64; refine (HEC2.out _ HB3.out).mono ?_; rintro e w4 ⟨rfl, hx4⟩; have HX4 := Lib.hid hx4; clear hx4))
      refine bodyPost_end (results_none rfl _ _ _) rfl ?_
      exact ⟨⟨_, rfl⟩, HX4.out⟩
set_option maxHeartbeats 800000 in
set_option maxRecDepth 100000 in
theorem rooted_any {A A' : Option Addr} {n n' c c' : Nat} (w : World) :
    Calls Try.prog 31 #[.slice A n c, .slice A' n' c'] w fun e w' => e = .returned (.func (.func 62) #[] #[.pointer (some ⟨w.heap.size, 0, none⟩), .pointer (some ⟨w.heap.size + 1, 0, none⟩)]) ∧ w' = (w.alloc (.cells #[.slice A n c] 24)).alloc (.cells #[.slice A' n' c'] 24) := by
  go_enter Try.func31, Try.ntmps31
  go_wp2
  go_ret
  exact ⟨rfl, rfl⟩

end Go.Proofs.Ytnfjdlocmdgefaa

/- Contracts (ApI). -/
namespace Go.Proofs.Ytnfjdlocmdgefaa
open Go.RowKit
set_option linter.unusedVariables false


theorem info_psA : (Try.prog.info? 36).map (fun i => (i.zero, i.size, i.bytes)) = some (some (.slice none 0 0), 1, 24) := by kernel_rfl
attribute [local go_sem] Oper.semAt_some
set_option maxHeartbeats 800000 in
set_option maxRecDepth 100000 in
theorem appendSeq_any {all : List Tr} {lb : Array Value} (n0 : Nat) (w : World) (hn0 : n0 ≤ w.heap.size) (hl : all.length ≤ 3125) (hseq : GivesAll Try.prog 77 n0 62 lb all w) :
    Calls Try.prog 61 #[.slice none 0 0, .func (.func 62) #[] lb] w fun e w' => ∃ v vs, e = .returned v ∧ RowsD w' n0 v vs all ∧ Below n0 w w' := by
  obtain ⟨i1, hj, hy0, hy1, hy2⟩ := info_parts info_psA
  obtain ⟨wb, hwb⟩ : ∃ wb, wb = w.alloc (.cells #[.slice none 0 0] 30) := ⟨_, rfl⟩
  have sb : wb.heap.size = w.heap.size + 1 := by rw [hwb]; simp
  have bb : Below w.heap.size w wb := by rw [hwb]; exact (Below.refl _ w).alloc (Nat.le_refl _) _
  have bx : Boxed wb w.heap.size 30 (.slice none 0 0) := by rw [hwb]; exact Boxed.new w 30 _
  have HS := Lib.hid hseq
  have HW := Lib.hid hwb
  clear hseq hwb
  refine (callsIn_wide (n := 1)).1 ?_
  refine callsIn_of_wp_marks Try.func61 rfl trivial ?_ rfl
  simp only [Try.ntmps61, List.size_toArray, List.length_cons, List.length_nil, Nat.reduceAdd, Nat.reduceSub, Array.replicate_succ, Array.replicate_zero, List.push_toArray, List.append_toArray, List.nil_append, List.cons_append]
  gi_wp2
  rw [← HW.out]
  refine wp_range (T := 77 ) (n0 := n0) (gf := 62) (lb := lb) (by omega) rfl (enters_of Try.func62 (by kernel_rfl) rfl) HS.out bb (RI n0 w.heap.size) RI.frees ⟨_, [], bx, ⟨⟨World.ownsRow_nil _ _ _ _, rfl, fun i hi => absurd hi (Nat.not_lt_zero _)⟩, fun i j _ hj => absurd hj (Nat.not_lt_zero _)⟩, fun _ e => e.elim⟩
    (fun v => { tmps := #[.slice none 0 0, .func (.func 62) #[] lb, .pointer (some ⟨w.heap.size, 0, none⟩), undef, .slice none 0 0, v, .func (.func 62) #[] lb, v, undef, undef, undef, undef, undef], defers := [] }) ?assign ?body ?done
  case assign =>
    intro l v W K hK
    gi_wp2
    exact hK
  case body =>
    rintro l pre x v b M W ⟨v0, vs, hbx, hd, hM⟩ hin hpre ⟨c9, rfl, hrow, hnM⟩
    have hlen : vs.length + 1 ≤ 3125 := by
      have := hpre.length_le
      rw [hd.1.2.1]
      simp at this
      omega
    have hc := hbx.cell
    have hf := hbx.frozen
    have HR := Lib.hid hd
    have HBX := Lib.hid hbx
    have HM := Lib.hid hM
    have HX := Lib.hid hrow
    have HI := Lib.hid hin
    have HN := Lib.hid hnM
    have hbase : n0 ≤ W.heap.size := by have := hbx.lt; omega
    clear hd hbx hM hrow hin hpre hnM
    gi_wp2_with (gi_at_builtin; refine wpListIn_append_own_at _ rfl _ _ 30 rfl n0 36 i1 (.slice none 0 0) 1 24 Try.underlying30 hj hy0 hy1 hy2 rfl (by decide) v0 vs.length vs rfl (HR.out.1.1.alloc _) ⟨W.heap.size, 0, none⟩ 1 1 [.slice (some ⟨b, 0, none⟩) x.length c9] rfl rfl (cell_one_new _ _ _) (by simp [Value.oneCell']) (by unfold maxLen; omega) (by omega) (by simp; omega) ?_; intro v' w1 hown' hgrow _ hnew; obtain ⟨g', cap', rfl⟩ := ownsRow_succ hown'; obtain ⟨hb1, hr1⟩ := RI.round HBX.out HR.out HM.out HX.out HI.out hn0 hown' hgrow (by simpa using hnew) HN.out; have hf1 := hb1.frozen; have hc1 := hb1.cell; have HR1 := Lib.hid hr1; clear hr1 hown' hgrow hnew)
    exact HR1.out
  case done =>
    rintro D W hD ⟨v, vs, hbx, hd, _⟩ hB hK
    have hc := hbx.cell
    have hlt : D < W.heap.size := (Array.getElem?_eq_some_iff.1 hK).1
    have HR := Lib.hid hd
    have HB := Lib.hid ((bb.mono hn0).trans hB)
    clear hd
    gi_wp2
    refine ⟨by simp, .inl ⟨_, _, rfl, run_takeDeferred hK, ?_⟩⟩
    refine ⟨_, results_tmp rfl _ _ _, v, rfl, ⟨vs, ?_⟩, HB.out.trans (below_putObj W _ (by omega) hlt)⟩
    have g := grownBy_putObj' W D (.deferred none)
    have ne : ∀ o : Option Nat, (∀ q, o = some q → ∃ cur e z, W.heap[q]? = some (.cells cur e z)) → o = none ∨ o ≠ some D := fun o ho => by
      refine .inr fun e => ?_
      obtain ⟨cur, e1, z, h⟩ := ho D e
      rw [hK] at h
      cases h
    have blk : ∀ {e1 : TypeId} {k sz : Nat} {zs : List Value} {u : Value}, W.ownsRow n0 e1 sz u k zs → u.ownBlock = none ∨ u.ownBlock ≠ some D := fun h => ne _ fun q hq => by
      rcases h.2 with ⟨h1, _⟩ | ⟨g', cap, cur, hv, _, hg, _⟩
      · rw [h1] at hq; cases hq
      · rw [hv] at hq; cases hq; exact ⟨_, _, _, hg⟩
    exact HR.out.other g (blk HR.out.1.1) (fun u hu => by obtain ⟨k, zs, hz⟩ := HR.out.1.mem hu; exact blk hz)

end Go.Proofs.Ytnfjdlocmdgefaa

/- Contracts (MpsI). -/
namespace Go.Proofs.Ytnfjdlocmdgefaa
open Go.RowKit
set_option linter.unusedVariables false


set_option maxHeartbeats 800000 in
set_option maxRecDepth 100000 in
theorem implMapsOf_any {xs ys : Tr} {A A' : Option Addr} {n n' c c' : Nat} (w : World) (ha : NdIn w w.heap.size A n xs) (hb : NdIn w w.heap.size A' n' ys) (hn : n ≤ 1048576) (hn' : n' ≤ 1048576) (hc : n ≤ c) (hc' : n' ≤ c') :
    Calls Try.prog 8 #[.slice A n c, .slice A' n' c'] w fun e w' => ∃ v vs, e = .returned v ∧ RowsD w' w.heap.size v vs (Am.all xs ys) ∧ Below w.heap.size w w' := by
  obtain ⟨w2, hw2⟩ : ∃ w2, w2 = (w.alloc (.cells #[.slice A n c] 24)).alloc (.cells #[.slice A' n' c'] 24) := ⟨_, rfl⟩
  have b2 : Below w.heap.size w w2 := by rw [hw2]; exact ((Below.refl _ w).alloc (Nat.le_refl _) _).alloc (by simp) _
  have g1 : w2.cell? ⟨w.heap.size, 0, none⟩ = some (.slice A n c) := by
    rw [hw2, World.cell?_alloc_lt _ _ _ (by simp)]; simp
  have g2 : w2.cell? ⟨w.heap.size + 1, 0, none⟩ = some (.slice A' n' c') := by
    rw [hw2, show w.heap.size + 1 = (w.alloc (.cells #[.slice A n c] 24)).heap.size by simp]; simp
  have GV := rooted_gives (n0 := w.heap.size) w.heap.size (w.heap.size + 1) w2 (ha.below b2) (hb.below b2) hn hn' hc hc' b2.size g1 g2
  have CA := Lib.hid ((appendSeq_any w.heap.size w2 b2.size Am.all_len GV).mono (R' := fun e w' => ∃ v, e = .returned v ∧ Hid (∃ vs, RowsD w' w.heap.size v vs (Am.all xs ys) ∧ Below w.heap.size w w')) (by
    rintro e w' ⟨v, vs, he, h, hb'⟩
    exact ⟨v, he, Lib.hid ⟨vs, h, b2.trans hb'⟩⟩))
  have HW := Lib.hid hw2
  clear hw2 b2 g1 g2 GV ha hb
  have CC : Calls Try.prog 30 #[.func (.func 62) #[] #[.pointer (some ⟨w.heap.size, 0, none⟩), .pointer (some ⟨w.heap.size + 1, 0, none⟩)]] w2 fun e w' => ∃ v, e = .returned v ∧ Hid (∃ vs, RowsD w' w.heap.size v vs (Am.all xs ys) ∧ Below w.heap.size w w') := by
    go_enter Try.func30, Try.ntmps30
    go_wp2_with (go_at_call 61; refine CA.out.mono ?_; rintro e w3 ⟨v, rfl, h3⟩)
    go_ret
    exact ⟨_, rfl, h3⟩
  have HC := Lib.hid CC
  clear CC CA
  go_enter Try.func8, Try.ntmps8
  go_wp2_with (first
    | (go_at_call 31; refine (rooted_any _).mono ?_; rintro e w3 ⟨rfl, hw3⟩; rw [← HW.out] at hw3; subst hw3)
    | (go_at_call 30; refine HC.out.mono ?_; rintro e w4 ⟨v, rfl, h4⟩))
  go_ret
  obtain ⟨vs, h5, h6⟩ := h4.out
  exact ⟨_, vs, rfl, h5, h6⟩

end Go.Proofs.Ytnfjdlocmdgefaa

/- Contracts (Lcn). -/
namespace Go.Proofs.Ytnfjdlocmdgefaa
open Go.RowKit
set_option linter.unusedVariables false


section
variable {xs ys : Tr} {k : Co}
theorem Am.all_small {L : Tr} (hL : L ∈ Am.all xs ys) : L.length ≤ 24 := by
  have h := (Am.all_ok hL).1
  have h1 := Mp.ok_iff.1 h
  exact Nat.le_trans (Mp.ok_len h) (Tr.len24 h1.1).2
end

end Go.Proofs.Ytnfjdlocmdgefaa

/- Lists of which the first part is laid (NdPt). -/
namespace Go.Proofs.Ytnfjdlocmdgefaa
open Go.RowKit
set_option linter.unusedVariables false

/-- the first k nodes of xs, then zeros -/
def Tr.part (xs : Tr) (k : Nat) : Tr := xs.take k ++ List.replicate (xs.length - k) (0, 0)
theorem Tr.part_length (xs : Tr) (k : Nat) (hk : k ≤ xs.length) : (Tr.part xs k).length = xs.length := by simp [Tr.part]; omega
theorem Tr.part_set (xs : Tr) (k : Nat) (hk : k < xs.length) : (Tr.part xs k).set k (Tr.l xs k, Tr.d xs k) = Tr.part xs (k + 1) := by
  unfold Tr.part
  rw [List.set_append_right _ _ (by simp; omega)]
  rw [List.take_succ_eq_append_getElem hk, List.append_assoc]
  congr 1
  rw [show xs.length - k = (xs.length - (k + 1)) + 1 by omega, List.replicate_succ]
  simp [Tr.l, Tr.d, List.getD_eq_getElem?_getD, hk, show k - min k xs.length = 0 by omega]
theorem Tr.part_full (xs : Tr) : Tr.part xs xs.length = xs := by simp [Tr.part]
theorem Tr.part_none (xs : Tr) : Tr.part xs 0 = List.replicate xs.length (0, 0) := by simp [Tr.part]

theorem made_nodes (n : Nat) : (madeCells (Value.agg #[.int .i64 0, .int .i64 0]).cells (n * 2)).toList = Tr.cells (List.replicate n (0, 0)) := by
  have h1 (m : Nat) : Tr.cells (List.replicate m (0, 0)) = List.replicate (m * 2) (.int .i64 0) := by
    induction m with
    | zero => rfl
    | succ m ih => rw [List.replicate_succ, show (m + 1) * 2 = m * 2 + 1 + 1 by omega, List.replicate_succ, List.replicate_succ, ← ih]; rfl
  rw [h1]
  apply List.ext_getElem?
  intro j
  by_cases hj : j < n * 2
  · have h2 : j % 2 = 0 ∨ j % 2 = 1 := by omega
    rcases h2 with h2 | h2 <;> simp [madeCells, hj, h2, Value.cells]
  · simp [madeCells, hj]

end Go.Proofs.Ytnfjdlocmdgefaa

/- Contracts of the harness over []Node: size, copy. -/
namespace Go.Proofs.Ytnfjdlocmdgefaa
open Go.RowKit
set_option linter.unusedVariables false

set_option maxHeartbeats 400000 in
theorem szNodeS_any (A : Option Addr) (n c : Nat) (left : Int) (w : World) (hn : n ≤ 9223372036854775807) (h0 : 0 ≤ left) (h1 : left ≤ 1048576) :
    Calls Try.prog 17 #[.slice A n c, .int .i64 left] w fun e w' => e = .returned (.int .i64 (if (n : Int) ≤ left then left - n else -1)) ∧ w = w' := by
  by_cases h : (n : Int) ≤ left
  · rw [if_pos h]
    go_enter Try.func17, Try.ntmps17
    go_wp2
    go_ret
    exact ⟨rfl, rfl⟩
  · rw [if_neg h]
    go_enter Try.func17, Try.ntmps17
    go_wp2
    go_ret
    exact ⟨rfl, rfl⟩

set_option maxHeartbeats 400000 in
theorem toNode_any (a b : Int) (w : World) :
    Calls Try.prog 45 #[.agg #[.int .i64 a, .int .i64 b]] w fun e w' => e = .returned (.agg #[.int .i64 a, .int .i64 b]) ∧ Below w.heap.size w w' := by
  go_enter Try.func45, Try.ntmps45
  go_wp2
  exact bodyPost_ret (v := .agg #[.int .i64 a, .int .i64 b]) (by simp [results, Try.results45, go_sem]) rfl ⟨rfl, by repeat' (first | exact Below.refl _ _ | refine Below.alloc ?_ (by simp [Nat.le_add_right, Nat.add_assoc]) _ | refine Below.setCell ?_ (by simp [Nat.add_assoc]) _)⟩

theorem info_node : (Try.prog.info? 61).map (fun i => (i.zero, i.size, i.bytes)) = some (some (.agg #[.int .i64 0, .int .i64 0]), 2, 16) := by kernel_rfl

set_option maxHeartbeats 800000 in
set_option maxRecDepth 100000 in
theorem toNodeS_any (A : Option Addr) (n c : Nat) (xs : Tr) (w : World) (h : NdIn w w.heap.size A n xs) (hn : n ≤ 1048576) :
    Calls Try.prog 18 #[.slice A n c] w fun e w' => e = .returned (.slice (some ⟨w.heap.size, 0, none⟩) n n) ∧
      w'.ownsRow w.heap.size 61 2 (.slice (some ⟨w.heap.size, 0, none⟩) n n) n (Tr.cells xs) ∧ Below w.heap.size w w' := by
  have H := Lib.hid h
  clear h
  have HL := Lib.hid H.out.1
  obtain ⟨i0, hi, hz0, hz1, hz2⟩ := info_parts info_node
  go_enter Try.func18, Try.ntmps18
  go_wp2_with (at_make; refine wpList_make_full _ rfl _ _ 24 rfl w.heap.size 61 i0 (.agg #[.int .i64 0, .int .i64 0]) 2 Try.underlying24 hi hz0 hz1 _ _ _ _ n rfl rfl rfl rfl (by rw [hz2]; omega) (by unfold maxLen; omega) (Nat.le_refl _) ?_; intro w1 hown1 hgrow1)
  have hb1 : Below w.heap.size w w1 := (Below.refl _ w).grown hgrow1 (Nat.le_refl _) (fun _ h => by cases h)
  rw [made_nodes, ← HL.out, ← Tr.part_none, HL.out] at hown1
  go_loopw [4] (fun iv wr => ∃ k : Nat, k ≤ n ∧ iv = .int .i64 k ∧ wr.ownsRow w.heap.size 61 2 (.slice (some ⟨w.heap.size, 0, none⟩) n n) n (Tr.cells (Tr.part xs k)) ∧ Below w.heap.size w wr) (fun i _ => n - (intOf i).toNat)
  case atStart => exact ⟨0, by omega, rfl, hown1, hb1⟩
  case round =>
    obtain ⟨k, hk, rfl, hown, hB⟩ := hrel
    have hsz := hB.size
    by_cases hlt : k < n
    · obtain ⟨ad, rfl, hb, hl, hd⟩ := (H.out.below hB).at_ hlt
      have Ho := Lib.hid hown
      have HB := Lib.hid hB
      clear hown hB
      go_wp2_with (go_at_call 45; refine (toNode_any _ _ _).mono ?_; rintro e w' ⟨rfl, hb'⟩; have hb2 := Lib.hid hb'; clear hb'; have Ho2 := Lib.hid (own_below Ho.out hb2.out); have c0 := own_even Ho2.out (k := k) (by rw [Tr.part_length _ _ (by rw [HL.out]; omega), HL.out]; omega); have c1 := own_odd Ho2.out (k := k) (by rw [Tr.part_length _ _ (by rw [HL.out]; omega), HL.out]; omega); have f0 := Ho2.out.frozenAt (k * 2); have f1 := Ho2.out.frozenAt (k * 2 + 1))
      go_roundw
      case rel =>
        refine ⟨k + 1, by omega, by go_num, ?_, ?_⟩
        · have := own_set Ho2.out k (Tr.l xs k) (Tr.d xs k)
          rw [Tr.part_set xs k (by rw [HL.out]; exact hlt)] at this
          exact this
        · exact ((HB.out.trans (hb2.out.mono hsz)).setCell (Nat.le_refl _) _).setCell (Nat.le_refl _) _
      case measure => simp [intOf]; omega
    · obtain rfl : k = n := by omega
      rw [← HL.out, Tr.part_full, HL.out] at hown
      go_wp2
      go_ret
      exact ⟨rfl, hown, hB⟩

end Go.Proofs.Ytnfjdlocmdgefaa
