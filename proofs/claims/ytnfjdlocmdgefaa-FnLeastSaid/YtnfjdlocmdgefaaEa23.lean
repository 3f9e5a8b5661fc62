/- Texts of one claim laid into one file, in build order: Few, Lcn, LcS, ApI, MpsI, MpsX, Rgn. -/
import Derived.Test.YtnfjdlocmdgefaaEa1
import Derived.Test.YtnfjdlocmdgefaaEa10
import Derived.Test.YtnfjdlocmdgefaaEa17
import Derived.Test.YtnfjdlocmdgefaaEa18
import Derived.Test.YtnfjdlocmdgefaaEa20
import Derived.Test.YtnfjdlocmdgefaaEa21
import Derived.Test.YtnfjdlocmdgefaaEa22
import Derived.Test.YtnfjdlocmdgefaaEa4
import Derived.Test.YtnfjdlocmdgefaaEa6
import Derived.Test.YtnfjdlocmdgefaaEa7
import Derived.Deep.RegionHeld3
import Derived.Maps.AppendAt
import Derived.Maps.OwnIn
import Derived.Outline
import Derived.Test.YtnfjdlocmdgefaaRows
/- Contracts (Few). -/
namespace Go.Proofs.Ytnfjdlocmdgefaa
open Go.RowKit
set_option linter.unusedVariables false


def few (xs : Tr) : Bool := decide (xs.length ≤ 5) && Tr.ok xs
set_option maxHeartbeats 800000 in
set_option maxRecDepth 100000 in
theorem fewEnough_any (A : Option Addr) (n c : Nat) (xs : Tr) (w : World) (h : NdIn w w.heap.size A n xs) (hn : n ≤ 1048576) (hnc : n ≤ c) :
    Calls Try.prog 63 #[.slice A n c] w fun e w' => e = .returned (.bool (few xs)) ∧ Below w.heap.size w w' := by
  have H := Lib.hid h
  have HL := Lib.hid h.1
  clear h
  by_cases h5 : n ≤ 5
  · have HF := Lib.hid (show few xs = Tr.ok xs by unfold few; rw [decide_eq_true (by rw [HL.out]; exact h5)]; rfl)
    have hd : decide ((n : Int) ≤ 5) = true := by simp; omega
    go_enter Try.func63, Try.ntmps63
    go_wp2_with (go_at_call 69; refine (implTreeOk_any A n c xs w H.out hn hnc).mono ?_; rintro e w2 ⟨rfl, hb⟩)
    go_ret
    exact ⟨by rw [HF.out]; rfl, hb⟩
  · have HF := Lib.hid (show few xs = false by unfold few; rw [decide_eq_false (by rw [HL.out]; exact h5)]; rfl)
    have hd : decide ((n : Int) ≤ 5) = false := by simp; omega
    go_enter Try.func63, Try.ntmps63
    go_wp2_with fail
    go_ret
    exact ⟨by rw [HF.out]; rfl, Below.refl _ _⟩
theorem Am.all_few {xs ys : Tr} (hx : few xs = true) (hy : few ys = true) : Am.all xs ys = Am.more xs ys (xs.length - 1) [(0, 0)] := by
  unfold few at hx hy
  simp only [Bool.and_eq_true] at hx hy
  exact Am.all_yes (by rw [hx.1, hx.2, hy.1, hy.2]; rfl)
theorem Am.all_few_a {xs ys : Tr} (hx : few xs = false) : Am.all xs ys = [] := by
  refine Am.all_no ?_
  unfold few at hx
  cases h1 : decide (xs.length ≤ 5) <;> cases h2 : Tr.ok xs <;> simp_all
theorem Am.all_few_b {xs ys : Tr} (hy : few ys = false) : Am.all xs ys = [] := by
  refine Am.all_no ?_
  unfold few at hy
  cases h1 : decide (ys.length ≤ 5) <;> cases h2 : Tr.ok ys <;> simp_all
set_option maxHeartbeats 800000 in
set_option maxRecDepth 100000 in
theorem rooted_gives {xs ys : Tr} {A A' : Option Addr} {n n' c c' n0 : Nat} (B1 B2 : Nat) (w0 : World) (hA : NdIn w0 n0 A n xs) (hB : NdIn w0 n0 A' n' ys) (hn : n ≤ 1048576) (hn' : n' ≤ 1048576) (hc : n ≤ c) (hc' : n' ≤ c') (hn0 : n0 ≤ w0.heap.size)
    (h1 : w0.cell? ⟨B1, 0, none⟩ = some (.slice A n c)) (h2 : w0.cell? ⟨B2, 0, none⟩ = some (.slice A' n' c')) :
    GivesAll Try.prog 77 n0 62 #[.pointer (some ⟨B1, 0, none⟩), .pointer (some ⟨B2, 0, none⟩)] (Am.all xs ys) w0 := by
  intro l J M W hW hJ hI hY hj
  have l1 : B1 < w0.heap.size := World.block_lt_of_cell? _ _ h1
  have l2 : B2 < w0.heap.size := World.block_lt_of_cell? _ _ h2
  have hA1 : NdIn W n0 A n xs := hA.below (hW.mono hn0)
  have hB1 : NdIn W n0 A' n' ys := hB.below (hW.mono hn0)
  have g1 : W.cell? ⟨B1, 0, none⟩ = some (.slice A n c) := (hW.cell (p := ⟨B1, 0, none⟩) l1).trans h1
  have g2 : W.cell? ⟨B2, 0, none⟩ = some (.slice A' n' c') := (hW.cell (p := ⟨B2, 0, none⟩) l2).trans h2
  have m1 : B1 < W.heap.size := Nat.lt_of_lt_of_le l1 hW.size
  have m2 : B2 < W.heap.size := Nat.lt_of_lt_of_le l2 hW.size
  have sz : n0 ≤ W.heap.size := Nat.le_trans hn0 hW.size
  have F1 : ∀ wq, Below W.heap.size W wq → Calls Try.prog 63 #[.slice A n c] wq fun e w' => e = .returned (.bool (few xs)) ∧ Below W.heap.size W w' ∧ w'.cell? ⟨B1, 0, none⟩ = some (.slice A n c) ∧ w'.cell? ⟨B2, 0, none⟩ = some (.slice A' n' c') := fun wq hb =>
    (fewEnough_any A n c xs wq ((hA1.below (hb.mono sz)).more (Nat.le_trans sz hb.size)) hn hc).mono (by
      rintro e w' ⟨rfl, hb'⟩
      have hb2 := hb.trans (hb'.mono hb.size)
      exact ⟨rfl, hb2, (hb2.cell (p := ⟨B1, 0, none⟩) m1).trans g1, (hb2.cell (p := ⟨B2, 0, none⟩) m2).trans g2⟩)
  have F2 : ∀ wq, Below W.heap.size W wq → Calls Try.prog 63 #[.slice A' n' c'] wq fun e w' => e = .returned (.bool (few ys)) ∧ Below W.heap.size W w' ∧ w'.cell? ⟨B1, 0, none⟩ = some (.slice A n c) ∧ w'.cell? ⟨B2, 0, none⟩ = some (.slice A' n' c') := fun wq hb =>
    (fewEnough_any A' n' c' ys wq ((hB1.below (hb.mono sz)).more (Nat.le_trans sz hb.size)) hn' hc').mono (by
      rintro e w' ⟨rfl, hb'⟩
      have hb2 := hb.trans (hb'.mono hb.size)
      exact ⟨rfl, hb2, (hb2.cell (p := ⟨B1, 0, none⟩) m1).trans g1, (hb2.cell (p := ⟨B2, 0, none⟩) m2).trans g2⟩)
  have EC : few xs = true → few ys = true → ∀ wq, Below W.heap.size W wq → Calls Try.prog 64 #[.slice A n c, .slice A' n' c', .slice (some ⟨wq.heap.size, 0, none⟩) 1 1, .int .i64 1, .func (.yield l) #[] #[]] (wq.alloc (.cells #[.int .i64 0, .int .i64 0] 77)) fun e w' => e = .returned (.bool true) ∧ J (Am.all xs ys) M w' ∧ Below n0 W w' := fun hx hy wq hb => by
    have ha := Am.all_few hx hy
    unfold few at hx hy
    simp only [Bool.and_eq_true, decide_eq_true_eq] at hx hy
    have nx := hA.1
    have ny := hB.1
    have x1 := (Tr.len24 hx.2).1
    have hb2 : Below W.heap.size W (wq.alloc (.cells #[.int .i64 0, .int .i64 0] 77)) := hb.alloc hb.size _
    have hb3 : Below n0 W (wq.alloc (.cells #[.int .i64 0, .int .i64 0] 77)) := hb2.mono sz
    have szq := hb.size
    refine (extend_any (xs := xs) (ys := ys) (n0 := n0) (all := Am.all xs ys) hJ hY hx.2 hy.2 nx.symm ny.symm hc hc' (xs.length - 1) 1 1 wq.heap.size 1 1 [(0, 0)] [] (fun q => M q ∨ q = wq.heap.size) _ (by omega) (Nat.le_refl _) rfl rfl (Nat.le_refl _) (Nat.le_refl _) rfl (Am.start_ok hx.2 hy.2)
      (hA1.below hb3) (hB1.below hb3) ?_ (.inr rfl) (fun q e => ?_) (hJ _ _ _ _ _ none hj (grown_of_below hb2 none) (fun r e => by cases e) (fun b e => e.imp id (by rintro rfl; exact szq))) (by rw [List.nil_append, ha]; exact List.prefix_refl _) (Nat.le_trans sz hb2.size)).mono ?_
    · exact World.ownsRow_lit wq #[.int .i64 0, .int .i64 0] 1 (by omega) (by decide) rfl
    · have := hb2.size
      rcases e with e | rfl
      · exact ⟨(hI q e).1, Nat.lt_of_lt_of_le (hI q e).2 this⟩
      · exact ⟨by omega, by simp⟩
    · rintro e w' ⟨he, h1, _, h3, _⟩
      rw [List.nil_append, ← ha] at h1
      exact ⟨he, hJ _ _ _ _ _ none h1 (Kit.grown_refl _ _) (fun r e => by cases e) (fun b e => .inl (.inl e)), hb3.trans h3⟩
  have JN : ∀ wq, Below W.heap.size W wq → Am.all xs ys = [] → J (Am.all xs ys) M wq ∧ Below n0 W wq := fun wq hb he => by
    rw [he]
    exact ⟨hJ _ _ _ _ _ none hj (grown_of_below hb none) (fun r e => by cases e) (fun b e => .inl e), hb.mono sz⟩
  have HB0 := Lib.hid (Below.refl W.heap.size W)
  have HF1 := Lib.hid F1
  have HF2 := Lib.hid F2
  have HEC := Lib.hid EC
  have HJN := Lib.hid JN
  clear F1 F2 EC JN hj hI hY hJ hA1 hB1 hA hB h1 h2 hW l1 l2 m1 m2
  show Calls Try.prog 62 #[.func (.yield l) #[] #[], .pointer (some ⟨B1, 0, none⟩), .pointer (some ⟨B2, 0, none⟩)] W _
  cases hx : few xs with
  | false =>
    have HN := Lib.hid (Am.all_few_a (ys := ys) hx)
    rw [hx] at HF1
    clear hx HEC HF2
    go_enter Try.func62, Try.ntmps62
    go_wp2_with (go_at_call 63; refine (HF1.out _ HB0.out).mono ?_; rintro e w2 ⟨rfl, hb2, k1, k2⟩; have HB2 := Lib.hid hb2; clear hb2)
    refine bodyPost_end (results_none rfl _ _ _) rfl ?_
    exact ⟨⟨_, rfl⟩, HJN.out _ HB2.out HN.out⟩
  | true =>
    cases hy : few ys with
    | false =>
      have HN := Lib.hid (Am.all_few_b (xs := xs) hy)
      rw [hx] at HF1
      rw [hy] at HF2
      clear hx hy HEC
      go_enter Try.func62, Try.ntmps62
      go_wp2_with (go_at_call 63; first | (refine (HF1.out _ HB0.out).mono ?_; clear HF1; rintro e w2 ⟨rfl, hb2, k1, k2⟩; have HB2 := Lib.hid hb2; clear hb2) | (refine (HF2.out _ HB2.out).mono ?_; rintro e w3 ⟨rfl, hb3, k3, k4⟩; have HB3 := Lib.hid hb3; clear hb3))
      refine bodyPost_end (results_none rfl _ _ _) rfl ?_
      exact ⟨⟨_, rfl⟩, HJN.out _ HB3.out HN.out⟩
    | true =>
      have HEC2 := Lib.hid (HEC.out hx hy)
      rw [hx] at HF1
      rw [hy] at HF2
      clear hx hy HEC HJN
      go_enter Try.func62, Try.ntmps62
      go_wp2_with (first
        | (go_at_call 63; first | (refine (HF1.out _ HB0.out).mono ?_; clear HF1; rintro e w2 ⟨rfl, hb2, k1, k2⟩; have HB2 := Lib.hid hb2; clear hb2) | (refine (HF2.out _ HB2.out).mono ?_; rintro e w3 ⟨rfl, hb3, k3, k4⟩; have HB3 := Lib.hid hb3; clear hb3))
        | (go_at_call 64; refine (HEC2.out _ HB3.out).mono ?_; rintro e w4 ⟨rfl, hx4⟩; have HX4 := Lib.hid hx4; clear hx4))
      refine bodyPost_end (results_none rfl _ _ _) rfl ?_
      exact ⟨⟨_, rfl⟩, HX4.out⟩
set_option maxHeartbeats 800000 in
set_option maxRecDepth 100000 in
theorem rooted_any {A A' : Option Addr} {n n' c c' : Nat} (w : World) :
    Calls Try.prog 31 #[.slice A n c, .slice A' n' c'] w fun e w' => e = .returned (.func (.func 62) #[] #[.pointer (some ⟨w.heap.size, 0, none⟩), .pointer (some ⟨w.heap.size + 1, 0, none⟩)]) ∧ w' = (w.alloc (.cells #[.slice A n c] 24)).alloc (.cells #[.slice A' n' c'] 24) := by
  go_enter Try.func31, Try.ntmps31
  go_wp2
  go_ret
  exact ⟨rfl, rfl⟩

end Go.Proofs.Ytnfjdlocmdgefaa

/- Contracts (Lcn). -/
namespace Go.Proofs.Ytnfjdlocmdgefaa
open Go.RowKit
set_option linter.unusedVariables false


theorem Mp.sum_nonneg {f : Nat → Int} (h : ∀ i, 0 ≤ f i) : ∀ n, 0 ≤ Mp.sum f n
  | 0 => Int.le_refl _
  | n + 1 => by
    have := Mp.sum_nonneg h n
    have := h n
    unfold Mp.sum
    omega
section
variable {xs ys : Tr} {k : Co}
theorem Mp.cost_nonneg {L : Tr} (h : Mp.ok xs ys L = true) (hk : Co.ok k = true) : 0 ≤ Mp.cost xs ys k L := by
  obtain ⟨d, i, r⟩ := Co.nonneg' k
  have a := Mp.sum_nonneg (f := Mp.gx xs ys k (L.take L.length)) (fun q => by unfold Mp.gx; split; exact (d _).1; exact (r _ _).1) xs.length
  have b := Mp.sum_nonneg (f := Mp.gy ys k (L.take L.length)) (fun q => by unfold Mp.gy; split; exact (i _).1; exact Int.le_refl _) ys.length
  unfold Mp.cost
  rw [h, hk, Bool.and_self, if_pos rfl]
  unfold Mp.part
  omega
theorem Am.out_neg (hk : Co.ok k = true) : ∀ i, i ≤ (Am.all xs ys).length → (Am.out xs ys k (Am.all xs ys) i < 0 ↔ i = 0)
  | 0, _ => by simp [Am.out]
  | i + 1, h => by
    obtain ⟨_, j, hj, e⟩ := Am.out_min (xs := xs) (ys := ys) (k := k) (Am.all xs ys) i
    have hjl : j < (Am.all xs ys).length := by omega
    rw [List.getD_eq_getElem?_getD, List.getElem?_eq_getElem hjl, Option.getD_some] at e
    have := Mp.cost_nonneg (Am.all_ok (List.getElem_mem hjl)).1 hk
    constructor
    · intro h'; omega
    · intro h'; omega
/-- one row more -/
theorem Am.out_next (hk : Co.ok k = true) {pre : List Tr} {x : Tr} (h : pre ++ [x] <+: Am.all xs ys) :
    Am.out xs ys k (Am.all xs ys) (pre ++ [x]).length = if Am.out xs ys k (Am.all xs ys) pre.length < 0 ∨ Mp.cost xs ys k x < Am.out xs ys k (Am.all xs ys) pre.length then Mp.cost xs ys k x else Am.out xs ys k (Am.all xs ys) pre.length := by
  obtain ⟨t, ht⟩ := h
  have hx : (Am.all xs ys).getD pre.length [] = x := by rw [← ht]; simp
  have hl : pre.length ≤ (Am.all xs ys).length := by rw [← ht]; simp
  rw [List.length_append, List.length_singleton, Am.out, hx]
  simp only [Am.out_neg hk _ hl]
theorem Am.all_small {L : Tr} (hL : L ∈ Am.all xs ys) : L.length ≤ 24 := by
  have h := (Am.all_ok hL).1
  have h1 := Mp.ok_iff.1 h
  exact Nat.le_trans (Mp.ok_len h) (Tr.len24 h1.1).2
end

end Go.Proofs.Ytnfjdlocmdgefaa

/- Contracts (LcS). -/
namespace Go.Proofs.Ytnfjdlocmdgefaa
open Go.RowKit
set_option linter.unusedVariables false


section
variable {wa wx wy : World} {s g i : Nat} {v0 v1 v2 v3 : Value}
/-- a cost's variable and one element of a row -/
def C4 (s g i : Nat) (v0 v1 v2 v3 : Value) (w : World) : Prop := (w.cell? ⟨s, 0, none⟩ = some v0 ∧ w.cell? ⟨s, 1, none⟩ = some v1 ∧ w.cell? ⟨s, 2, none⟩ = some v2) ∧ w.cell? ⟨g, i, none⟩ = some v3
theorem C4.below (h : C4 s g i v0 v1 v2 v3 wx) (hb : Below wx.heap.size wx wy) : C4 s g i v0 v1 v2 v3 wy :=
  have c : ∀ {p : Addr} {v : Value}, wx.cell? p = some v → wy.cell? p = some v := fun hc => (hb.cell (World.block_lt_of_cell? _ _ hc)).trans hc
  ⟨⟨c h.1.1, c h.1.2.1, c h.1.2.2⟩, c h.2⟩
theorem c4_below (h : ((wx.cell? ⟨s, 0, none⟩ = some v0 ∧ wx.cell? ⟨s, 1, none⟩ = some v1 ∧ wx.cell? ⟨s, 2, none⟩ = some v2) ∧ wx.cell? ⟨g, i, none⟩ = some v3) ∧ BelA wa wx) : Below wa.heap.size wa wx := h.2
theorem c4_keep (h : ((wx.cell? ⟨s, 0, none⟩ = some v0 ∧ wx.cell? ⟨s, 1, none⟩ = some v1 ∧ wx.cell? ⟨s, 2, none⟩ = some v2) ∧ wx.cell? ⟨g, i, none⟩ = some v3) ∧ BelA wa wx) (hb : Below wx.heap.size wx wy) :
    ((wy.cell? ⟨s, 0, none⟩ = some v0 ∧ wy.cell? ⟨s, 1, none⟩ = some v1 ∧ wy.cell? ⟨s, 2, none⟩ = some v2) ∧ wy.cell? ⟨g, i, none⟩ = some v3) ∧ BelA wa wy :=
  ⟨C4.below h.1 hb, h.2.trans (hb.mono h.2.size)⟩
end
end Go.Proofs.Ytnfjdlocmdgefaa

/- Contracts (ApI). -/
namespace Go.Proofs.Ytnfjdlocmdgefaa
open Go.RowKit
set_option linter.unusedVariables false


theorem info_psA : (Try.prog.info? 36).map (fun i => (i.zero, i.size, i.bytes)) = some (some (.slice none 0 0), 1, 24) := by kernel_rfl
attribute [local go_sem] Oper.semAt_some
set_option maxHeartbeats 800000 in
set_option maxRecDepth 100000 in
theorem appendSeq_any {all : List Tr} {lb : Array Value} (n0 : Nat) (w : World) (hn0 : n0 ≤ w.heap.size) (hl : all.length ≤ 3125) (hseq : GivesAll Try.prog 77 n0 62 lb all w) :
    Calls Try.prog 61 #[.slice none 0 0, .func (.func 62) #[] lb] w fun e w' => ∃ v vs, e = .returned v ∧ RowsD w' n0 v vs all ∧ Below n0 w w' := by
  obtain ⟨i1, hj, hy0, hy1, hy2⟩ := info_parts info_psA
  obtain ⟨wb, hwb⟩ : ∃ wb, wb = w.alloc (.cells #[.slice none 0 0] 30) := ⟨_, rfl⟩
  have sb : wb.heap.size = w.heap.size + 1 := by rw [hwb]; simp
  have bb : Below w.heap.size w wb := by rw [hwb]; exact (Below.refl _ w).alloc (Nat.le_refl _) _
  have bx : Boxed wb w.heap.size 30 (.slice none 0 0) := by rw [hwb]; exact Boxed.new w 30 _
  have HS := Lib.hid hseq
  have HW := Lib.hid hwb
  clear hseq hwb
  refine (callsIn_wide (n := 1)).1 ?_
  refine callsIn_of_wp_marks Try.func61 rfl trivial ?_ rfl
  simp only [Try.ntmps61, List.size_toArray, List.length_cons, List.length_nil, Nat.reduceAdd, Nat.reduceSub, Array.replicate_succ, Array.replicate_zero, List.push_toArray, List.append_toArray, List.nil_append, List.cons_append]
  gi_wp2
  rw [← HW.out]
  refine wp_range (T := 77 ) (n0 := n0) (gf := 62) (lb := lb) (by omega) rfl (enters_of Try.func62 (by kernel_rfl) rfl) HS.out bb (RI n0 w.heap.size) RI.frees ⟨_, [], bx, ⟨⟨World.ownsRow_nil _ _ _ _, rfl, fun i hi => absurd hi (Nat.not_lt_zero _)⟩, fun i j _ hj => absurd hj (Nat.not_lt_zero _)⟩, fun _ e => e.elim⟩
    (fun v => { tmps := #[.slice none 0 0, .func (.func 62) #[] lb, .pointer (some ⟨w.heap.size, 0, none⟩), undef, .slice none 0 0, v, .func (.func 62) #[] lb, v, undef, undef, undef, undef, undef], defers := [] }) ?assign ?body ?done
  case assign =>
    intro l v W K hK
    gi_wp2
    exact hK
  case body =>
    rintro l pre x v b M W ⟨v0, vs, hbx, hd, hM⟩ hin hpre ⟨c9, rfl, hrow, hnM⟩
    have hlen : vs.length + 1 ≤ 3125 := by
      have := hpre.length_le
      rw [hd.1.2.1]
      simp at this
      omega
    have hc := hbx.cell
    have hf := hbx.frozen
    have HR := Lib.hid hd
    have HBX := Lib.hid hbx
    have HM := Lib.hid hM
    have HX := Lib.hid hrow
    have HI := Lib.hid hin
    have HN := Lib.hid hnM
    have hbase : n0 ≤ W.heap.size := by have := hbx.lt; omega
    clear hd hbx hM hrow hin hpre hnM
    gi_wp2_with (gi_at_builtin; refine wpListIn_append_own_at _ rfl _ _ 30 rfl n0 36 i1 (.slice none 0 0) 1 24 Try.underlying30 hj hy0 hy1 hy2 rfl (by decide) v0 vs.length vs rfl (HR.out.1.1.alloc _) ⟨W.heap.size, 0, none⟩ 1 1 [.slice (some ⟨b, 0, none⟩) x.length c9] rfl rfl (cell_one_new _ _ _) (by simp [Value.oneCell']) (by unfold maxLen; omega) (by omega) (by simp; omega) ?_; intro v' w1 hown' hgrow _ hnew; obtain ⟨g', cap', rfl⟩ := ownsRow_succ hown'; obtain ⟨hb1, hr1⟩ := RI.round HBX.out HR.out HM.out HX.out HI.out hn0 hown' hgrow (by simpa using hnew) HN.out; have hf1 := hb1.frozen; have hc1 := hb1.cell; have HR1 := Lib.hid hr1; clear hr1 hown' hgrow hnew)
    exact HR1.out
  case done =>
    rintro D W hD ⟨v, vs, hbx, hd, _⟩ hB hK
    have hc := hbx.cell
    have hlt : D < W.heap.size := (Array.getElem?_eq_some_iff.1 hK).1
    have HR := Lib.hid hd
    have HB := Lib.hid ((bb.mono hn0).trans hB)
    clear hd
    gi_wp2
    refine ⟨by simp, .inl ⟨_, _, rfl, run_takeDeferred hK, ?_⟩⟩
    refine ⟨_, results_tmp rfl _ _ _, v, rfl, ⟨vs, ?_⟩, HB.out.trans (below_putObj W _ (by omega) hlt)⟩
    have g := grownBy_putObj' W D (.deferred none)
    have ne : ∀ o : Option Nat, (∀ q, o = some q → ∃ cur e z, W.heap[q]? = some (.cells cur e z)) → o = none ∨ o ≠ some D := fun o ho => by
      refine .inr fun e => ?_
      obtain ⟨cur, e1, z, h⟩ := ho D e
      rw [hK] at h
      cases h
    have blk : ∀ {e1 : TypeId} {k sz : Nat} {zs : List Value} {u : Value}, W.ownsRow n0 e1 sz u k zs → u.ownBlock = none ∨ u.ownBlock ≠ some D := fun h => ne _ fun q hq => by
      rcases h.2 with ⟨h1, _⟩ | ⟨g', cap, cur, hv, _, hg, _⟩
      · rw [h1] at hq; cases hq
      · rw [hv] at hq; cases hq; exact ⟨_, _, _, hg⟩
    exact HR.out.other g (blk HR.out.1.1) (fun u hu => by obtain ⟨k, zs, hz⟩ := HR.out.1.mem hu; exact blk hz)

end Go.Proofs.Ytnfjdlocmdgefaa

/- Contracts (MpsI). -/
namespace Go.Proofs.Ytnfjdlocmdgefaa
open Go.RowKit
set_option linter.unusedVariables false


set_option maxHeartbeats 800000 in
set_option maxRecDepth 100000 in
theorem implMapsOf_any {xs ys : Tr} {A A' : Option Addr} {n n' c c' : Nat} (w : World) (ha : NdIn w w.heap.size A n xs) (hb : NdIn w w.heap.size A' n' ys) (hn : n ≤ 1048576) (hn' : n' ≤ 1048576) (hc : n ≤ c) (hc' : n' ≤ c') :
    Calls Try.prog 8 #[.slice A n c, .slice A' n' c'] w fun e w' => ∃ v vs, e = .returned v ∧ RowsD w' w.heap.size v vs (Am.all xs ys) ∧ Below w.heap.size w w' := by
  obtain ⟨w2, hw2⟩ : ∃ w2, w2 = (w.alloc (.cells #[.slice A n c] 24)).alloc (.cells #[.slice A' n' c'] 24) := ⟨_, rfl⟩
  have b2 : Below w.heap.size w w2 := by rw [hw2]; exact ((Below.refl _ w).alloc (Nat.le_refl _) _).alloc (by simp) _
  have g1 : w2.cell? ⟨w.heap.size, 0, none⟩ = some (.slice A n c) := by
    rw [hw2, World.cell?_alloc_lt _ _ _ (by simp)]; simp
  have g2 : w2.cell? ⟨w.heap.size + 1, 0, none⟩ = some (.slice A' n' c') := by
    rw [hw2, show w.heap.size + 1 = (w.alloc (.cells #[.slice A n c] 24)).heap.size by simp]; simp
  have GV := rooted_gives (n0 := w.heap.size) w.heap.size (w.heap.size + 1) w2 (ha.below b2) (hb.below b2) hn hn' hc hc' b2.size g1 g2
  have CA := Lib.hid ((appendSeq_any w.heap.size w2 b2.size Am.all_len GV).mono (R' := fun e w' => ∃ v, e = .returned v ∧ Hid (∃ vs, RowsD w' w.heap.size v vs (Am.all xs ys) ∧ Below w.heap.size w w')) (by
    rintro e w' ⟨v, vs, he, h, hb'⟩
    exact ⟨v, he, Lib.hid ⟨vs, h, b2.trans hb'⟩⟩))
  have HW := Lib.hid hw2
  clear hw2 b2 g1 g2 GV ha hb
  have CC : Calls Try.prog 30 #[.func (.func 62) #[] #[.pointer (some ⟨w.heap.size, 0, none⟩), .pointer (some ⟨w.heap.size + 1, 0, none⟩)]] w2 fun e w' => ∃ v, e = .returned v ∧ Hid (∃ vs, RowsD w' w.heap.size v vs (Am.all xs ys) ∧ Below w.heap.size w w') := by
    go_enter Try.func30, Try.ntmps30
    go_wp2_with (go_at_call 61; refine CA.out.mono ?_; rintro e w3 ⟨v, rfl, h3⟩)
    go_ret
    exact ⟨_, rfl, h3⟩
  have HC := Lib.hid CC
  clear CC CA
  go_enter Try.func8, Try.ntmps8
  go_wp2_with (first
    | (go_at_call 31; refine (rooted_any _).mono ?_; rintro e w3 ⟨rfl, hw3⟩; rw [← HW.out] at hw3; subst hw3)
    | (go_at_call 30; refine HC.out.mono ?_; rintro e w4 ⟨v, rfl, h4⟩))
  go_ret
  obtain ⟨vs, h5, h6⟩ := h4.out
  exact ⟨_, vs, rfl, h5, h6⟩

end Go.Proofs.Ytnfjdlocmdgefaa

/- Contracts (MpsX). -/
namespace Go.Proofs.Ytnfjdlocmdgefaa
open Go.RowKit
set_option linter.unusedVariables false

theorem specMapsOf_rows {xs ys : Tr} {A A' : Option Addr} {n n' c c' : Nat} (R : List Tr) (hR : R = Am.all xs ys) (w : World) (ha : NdIn w w.heap.size A n xs) (hb : NdIn w w.heap.size A' n' ys) (hn : n ≤ 1048576) (hn' : n' ≤ 1048576) :
    Calls Try.prog 16 #[.slice A n c, .slice A' n' c'] w fun e w' => ∃ Av cv, e = .returned (.slice Av R.length cv) ∧ Hid (∃ vs, RowsP w' w.heap.size (.slice Av R.length cv) vs R) ∧ Below w.heap.size w w' :=
  (specMapsOf_any (c := c) (c' := c') w ha hb hn hn').mono (by
    rintro e w' ⟨v, vs, rfl, h, hb⟩
    rw [← hR] at h
    obtain ⟨Av, cv, rfl⟩ := own_slice h.1
    rw [h.2.1] at h ⊢
    exact ⟨Av, cv, rfl, Lib.hid ⟨vs, h⟩, hb⟩)
theorem implMapsOf_rows {xs ys : Tr} {A A' : Option Addr} {n n' c c' : Nat} (R : List Tr) (hR : R = Am.all xs ys) (w : World) (ha : NdIn w w.heap.size A n xs) (hb : NdIn w w.heap.size A' n' ys) (hn : n ≤ 1048576) (hn' : n' ≤ 1048576) (hc : n ≤ c) (hc' : n' ≤ c') :
    Calls Try.prog 8 #[.slice A n c, .slice A' n' c'] w fun e w' => ∃ Av cv, e = .returned (.slice Av R.length cv) ∧ Hid (∃ vs, RowsD w' w.heap.size (.slice Av R.length cv) vs R) ∧ Below w.heap.size w w' :=
  (implMapsOf_any (c := c) (c' := c') w ha hb hn hn' hc hc').mono (by
    rintro e w' ⟨v, vs, rfl, h, hb⟩
    rw [← hR] at h
    obtain ⟨Av, cv, rfl⟩ := own_slice h.1.1
    have hl := h.1.2.1
    rw [hl] at h ⊢
    exact ⟨Av, cv, rfl, Lib.hid ⟨vs, h⟩, hb⟩)

end Go.Proofs.Ytnfjdlocmdgefaa

/- Contracts (Rgn). -/
namespace Go.Proofs.Ytnfjdlocmdgefaa
open Go.RowKit
set_option linter.unusedVariables false

section
variable {P : Program} {md : Region.Mode} {ops : Array Oper} {Q : Exit → Act → World → Prop} {S : World → Prop} {i fuel : Nat} {oi : Oper} {rest : List Oper} {listed : Array Bool} {a : Act} {w : World}
theorem rg_at (hd : ops.toList.drop i = oi :: rest) : ops[i]? = some oi := by
  have h : (ops.toList.drop i)[0]? = some oi := by rw [hd]; rfl
  rw [List.getElem?_drop] at h
  simpa using h
/-- an operation of a region that draws, not wanted: passed over first -/
theorem rg_skip (hd : ops.toList.drop i = oi :: rest) (hs : Region.noSelect ops = true) (hf : Region.free md ops listed i = true) (hr : (Region.ready md ops listed).contains i = true)
    (hQ : ∀ c a w, Q (.panic c) (a.put oi.dst undef) w → Q (.panic c) a w) (hw : Region.wanted oi (yielded ops a.tmps) = false) (hS : S w)
    (h : wpAnyH P md ops Q S fuel (listed.setIfInBounds i true) (a.put oi.dst undef) w) : wpAnyH P md ops Q S (fuel + 1) listed a w :=
  wpAnyH_take (rg_at hd) hs hf hr hQ (.inr ⟨hw, rfl⟩) hS h
/-- .. wanted: taken first -/
theorem rg_take {v : Value} (hd : ops.toList.drop i = oi :: rest) (hs : Region.noSelect ops = true) (hf : Region.free md ops listed i = true) (hr : (Region.ready md ops listed).contains i = true)
    (hQ : ∀ c a w, Q (.panic c) (a.put oi.dst v) w → Q (.panic c) a w) (hw : Region.wanted oi (yielded ops a.tmps) = true) (hy : ∀ w, S w → (execOp a.eval oi).run P w = .ok (.value v) w) (hS : S w)
    (h : wpAnyH P md ops Q S fuel (listed.setIfInBounds i true) (a.put oi.dst v) w) : wpAnyH P md ops Q S (fuel + 1) listed a w :=
  wpAnyH_take (rg_at hd) hs hf hr hQ (.inl ⟨hw, hy⟩) hS h
/-- .. the one that may come up now -/
theorem rg_one (hd : ops.toList.drop i = oi :: rest) (hr : Region.ready md ops listed = [i])
    (h : ∀ K' : Act → World → Prop, Shut (∀ a w, S w → (S w → wpAnyH P md ops Q S fuel (listed.setIfInBounds i true) a w) → K' a w) → if Region.wanted oi (yielded ops a.tmps) = true then Oper.wp P oi a w K' Q else K' (a.put oi.dst undef) w) : wpAnyH P md ops Q S (fuel + 1) listed a w :=
  wpAnyH_ready hr (by simp) (AllReadyH.cons (rg_at hd) h AllReadyH.nil)
end

end Go.Proofs.Ytnfjdlocmdgefaa
