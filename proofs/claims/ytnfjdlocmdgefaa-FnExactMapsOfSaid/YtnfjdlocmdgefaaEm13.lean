/- Texts of one claim laid into one file, in build order: Am, Exu, UndS. -/
import Derived.Test.YtnfjdlocmdgefaaEm12
import Derived.Test.YtnfjdlocmdgefaaEm3
import Derived.Test.YtnfjdlocmdgefaaEm5
import Derived.Test.YtnfjdlocmdgefaaEm7
/- Contracts (Am). -/
namespace Go.Proofs.Ytnfjdlocmdgefaa
open Go.RowKit
set_option linter.unusedVariables false

/-- all ways to go on with the last r nodes -/
def Am.more (xs ys : Tr) : Nat → Tr → List Tr
  | 0, m => [m]
  | r + 1, m => Am.more xs ys r m ++ (List.range (ys.length - 1)).flatMap fun q => if Mp.ok xs ys (m ++ [(((xs.length - (r + 1) : Nat) : Int), ((q + 1 : Nat) : Int))]) then Am.more xs ys r (m ++ [(((xs.length - (r + 1) : Nat) : Int), ((q + 1 : Nat) : Int))]) else []
def Am.all (xs ys : Tr) : List Tr := if Tr.ok xs && Tr.ok ys && decide (xs.length ≤ 5) && decide (ys.length ≤ 5) then Am.more xs ys (xs.length - 1) [(0, 0)] else []
section
variable {xs ys : Tr}
theorem Am.more_ok : ∀ (r : Nat) (m : Tr), Mp.ok xs ys m = true → ∀ L ∈ Am.more xs ys r m, Mp.ok xs ys L = true ∧ ∃ Z, L = m ++ Z
  | 0, m, h, L, hL => by
    obtain rfl := List.mem_singleton.1 hL
    exact ⟨h, [], by simp⟩
  | r + 1, m, h, L, hL => by
    rcases List.mem_append.1 hL with hL | hL
    · exact Am.more_ok r m h L hL
    · obtain ⟨q, _, hq⟩ := List.mem_flatMap.1 hL
      by_cases c : Mp.ok xs ys (m ++ [(((xs.length - (r + 1) : Nat) : Int), ((q + 1 : Nat) : Int))]) = true
      · rw [if_pos c] at hq
        obtain ⟨h1, Z, rfl⟩ := Am.more_ok r _ c L hq
        exact ⟨h1, _, List.append_assoc _ _ _⟩
      · rw [if_neg c] at hq
        cases hq
theorem Am.more_len (hy : 1 ≤ ys.length) : ∀ (r : Nat) (m : Tr), 1 ≤ (Am.more xs ys r m).length ∧ (Am.more xs ys r m).length ≤ ys.length ^ r
  | 0, m => by simp [Am.more]
  | r + 1, m => by
    have ih := Am.more_len hy r
    have fl : ∀ l : List Nat, (l.flatMap fun q => if Mp.ok xs ys (m ++ [(((xs.length - (r + 1) : Nat) : Int), ((q + 1 : Nat) : Int))]) then Am.more xs ys r (m ++ [(((xs.length - (r + 1) : Nat) : Int), ((q + 1 : Nat) : Int))]) else []).length ≤ l.length * ys.length ^ r := fun l => by
      induction l with
      | nil => simp
      | cons q l il =>
        rw [List.flatMap_cons, List.length_append, List.length_cons, Nat.succ_mul]
        split
        · have := (ih (m ++ [(((xs.length - (r + 1) : Nat) : Int), ((q + 1 : Nat) : Int))])).2
          omega
        · simp only [List.length_nil]; omega
    have f := fl (List.range (ys.length - 1))
    have g := ih m
    rw [List.length_range] at f
    rw [Am.more, List.length_append]
    refine ⟨by omega, ?_⟩
    have e : ys.length ^ (r + 1) = (ys.length - 1) * ys.length ^ r + ys.length ^ r := by
      rw [← Nat.succ_mul, show (ys.length - 1).succ = ys.length by omega, Nat.pow_succ, Nat.mul_comm]
    omega
theorem Am.filter_ok {M : Tr} (h : Mp.ok xs ys M = true) (f : Int × Int → Bool) : Mp.ok xs ys (M.filter f) = true := by
  obtain ⟨h1, h2, h3, h4⟩ := Mp.ok_iff.1 h
  exact Mp.ok_iff.2 ⟨h1, h2, fun e he => h3 e (List.mem_filter.1 he).1, h4.filter _⟩
/-- each one that is valid, root to root, is among them -/
theorem Am.more_has {M : Tr} (h : Mp.ok xs ys M = true) (hp : ∀ e ∈ M, e = (0, 0) ∨ 0 < e.1 ∧ 0 < e.2) : ∀ (r : Nat), r < xs.length → M ∈ Am.more xs ys r (M.filter fun e => decide (e.1 < ((xs.length - r : Nat) : Int)))
  | 0, hr => by
    obtain ⟨_, _, h3, _⟩ := Mp.ok_iff.1 h
    have e : (M.filter fun e => decide (e.1 < ((xs.length - 0 : Nat) : Int))) = M := List.filter_eq_self.2 (fun e he => by
      have := (Tr.has_iff.1 (h3 e he).1).2
      simp only [decide_eq_true_eq]
      omega)
    rw [e]
    exact List.mem_singleton.2 rfl
  | r + 1, hr => by
    have ih := Am.more_has h hp r (by omega)
    obtain ⟨_, _, h3, h4⟩ := Mp.ok_iff.1 h
    have asc : M.Pairwise fun e e' => e.1 < e'.1 := h4.imp fun h => h.1
    have sp := asc_split asc (xs.length - (r + 1))
    rw [show xs.length - (r + 1) + 1 = xs.length - r by omega] at sp
    rw [← sp] at ih
    rw [Am.more]
    rcases one_key asc ((xs.length - (r + 1) : Nat) : Int) with k | ⟨x, k⟩
    · rw [k, List.append_nil] at ih
      exact List.mem_append.2 (.inl ih)
    · rw [k] at ih sp
      have hx : x ∈ M.filter fun e => decide (e.1 = ((xs.length - (r + 1) : Nat) : Int)) := by rw [k]; exact List.mem_singleton.2 rfl
      obtain ⟨hm, hz⟩ := List.mem_filter.1 hx
      have he : x.1 = ((xs.length - (r + 1) : Nat) : Int) := by simpa using hz
      clear hz
      have hd := (Tr.has_iff.1 (h3 x hm).2).2
      have hpos : 0 < x.2 := by
        rcases hp x hm with e | e
        · rw [e] at he
          dsimp only at he
          omega
        · exact e.2
      obtain ⟨x1, x2⟩ := x
      dsimp only at he hd hpos
      obtain ⟨v, rfl⟩ := Int.eq_ofNat_of_zero_le hd.1
      refine List.mem_append.2 (.inr (List.mem_flatMap.2 ⟨v - 1, List.mem_range.2 (by omega), ?_⟩))
      have he' : x1 = ((xs.length - (r + 1) : Nat) : Int) := he
      clear he
      subst he'
      rw [show v - 1 + 1 = v by omega]
      rw [if_pos (by rw [sp]; exact Am.filter_ok h _)]
      exact ih
theorem Am.has {M : Tr} (h : Mp.ok xs ys M = true) (hr : Tr.rooted M = true) : M ∈ Am.more xs ys (xs.length - 1) [(0, 0)] := by
  obtain ⟨hx, hy, h3, h4⟩ := Mp.ok_iff.1 h
  have x1 := (Tr.len24 hx).1
  obtain ⟨M', rfl⟩ : ∃ M', M = (0, 0) :: M' := by
    cases M with
    | nil => simp [Tr.rooted] at hr
    | cons e M' =>
      refine ⟨M', ?_⟩
      obtain ⟨a, b⟩ := e
      simp [Tr.rooted, Tr.l, Tr.d] at hr
      obtain ⟨rfl, rfl⟩ := hr
      rfl
  obtain ⟨p1, p2⟩ := List.pairwise_cons.1 h4
  have g := Am.more_has h (fun e he => by
    rcases List.mem_cons.1 he with e | e
    · exact .inl e
    · exact .inr ⟨(p1 _ e).1, (p1 _ e).2.1⟩) (xs.length - 1) (by omega)
  have e : ((0, 0) :: M').filter (fun e => decide (e.1 < ((xs.length - (xs.length - 1) : Nat) : Int))) = [((0 : Int), (0 : Int))] := by
    rw [show xs.length - (xs.length - 1) = 1 by omega, List.filter_cons_of_pos (by decide)]
    congr 1
    refine List.filter_eq_nil_iff.2 (fun e he => ?_)
    have := (p1 e he).1
    dsimp only at this
    simp only [decide_eq_true_eq]
    omega
  rw [e] at g
  exact g
end

end Go.Proofs.Ytnfjdlocmdgefaa

/- Contracts (Exu). -/
namespace Go.Proofs.Ytnfjdlocmdgefaa
open Go.RowKit
set_option linter.unusedVariables false


section
variable {xs ys ms : Tr} {a b : Int}
theorem Tr.l_snoc {k : Nat} (p : Int × Int) (h : k < ms.length) : Tr.l (ms ++ [p]) k = Tr.l ms k := by
  simp only [Tr.l, List.getD_eq_getElem?_getD, List.getElem?_append_left h]
theorem Tr.d_snoc {k : Nat} (p : Int × Int) (h : k < ms.length) : Tr.d (ms ++ [p]) k = Tr.d ms k := by
  simp only [Tr.d, List.getD_eq_getElem?_getD, List.getElem?_append_left h]
theorem Tr.l_last (p : Int × Int) : Tr.l (ms ++ [p]) ms.length = p.1 := by simp [Tr.l]
theorem Tr.d_last (p : Int × Int) : Tr.d (ms ++ [p]) ms.length = p.2 := by simp [Tr.d]
theorem Mp.at_snoc {k : Nat} (p : Int × Int) (h : k < ms.length) (a b : Int) : Mp.at xs ys (ms ++ [p]) a b k = Mp.at xs ys ms a b k := by
  unfold Mp.at; rw [Tr.l_snoc p h, Tr.d_snoc p h]
theorem all_range_congr {f g : Nat → Bool} {n : Nat} (h : ∀ k, k < n → f k = g k) : (List.range n).all f = (List.range n).all g := by
  rw [Bool.eq_iff_iff]
  simp only [List.all_eq_true, List.mem_range]
  exact ⟨fun q k hk => (h k hk) ▸ q k hk, fun q k hk => (h k hk).symm ▸ q k hk⟩
theorem Mp.after_snoc {n : Nat} (p : Int × Int) (h : n ≤ ms.length) (a b : Int) : Mp.after xs ys (ms ++ [p]) n a b = Mp.after xs ys ms n a b :=
  all_range_congr fun k hk => Mp.at_snoc p (by omega) a b
theorem Mp.okAt_snoc {k : Nat} (p : Int × Int) (h : k < ms.length) : Mp.okAt xs ys (ms ++ [p]) k = Mp.okAt xs ys ms k := by
  unfold Mp.okAt; rw [Tr.l_snoc p h, Tr.d_snoc p h, Mp.after_snoc p (by omega)]
theorem Mp.ok_snoc (h : Mp.ok xs ys ms = true) (ha : Tr.has xs a = true) (hb : Tr.has ys b = true) : Mp.ok xs ys (ms ++ [(a, b)]) = Mp.after xs ys ms ms.length a b := by
  have h' := h
  unfold Mp.ok at h'
  simp only [Bool.and_eq_true] at h'
  unfold Mp.ok
  rw [h'.1.1, h'.1.2, List.length_append, List.length_singleton, List.range_succ, List.all_append, all_range_congr (fun k hk => Mp.okAt_snoc (a, b) hk), h'.2]
  simp only [List.all_cons, List.all_nil, Bool.and_true, Bool.true_and]
  unfold Mp.okAt
  rw [Tr.l_last, Tr.d_last, Mp.after_snoc _ (Nat.le_refl _), ha, hb, Bool.true_and, Bool.true_and]
/-- no node goes with the root of the second tree once the roots are a pair -/
theorem Mp.after_root (h : 1 ≤ ms.length) (h0 : Tr.d ms 0 = 0) : Mp.after xs ys ms ms.length a 0 = false := by
  refine Mp.after_no (k := 0) (by omega) ?_
  unfold Mp.at
  rw [h0]
  simp
end
/-- what the nodes 1 .. y - 1 of the second tree give for one node of the first -/
def Am.upto (xs ys : Tr) (r : Nat) (m : Tr) (y : Nat) : List Tr :=
  (List.range (y - 1)).flatMap fun q => if Mp.ok xs ys (m ++ [(((xs.length - (r + 1) : Nat) : Int), ((q + 1 : Nat) : Int))]) then Am.more xs ys r (m ++ [(((xs.length - (r + 1) : Nat) : Int), ((q + 1 : Nat) : Int))]) else []
section
variable {xs ys m : Tr} {r : Nat}
theorem Am.upto_zero : Am.upto xs ys r m 0 = [] := rfl
theorem Am.upto_one : Am.upto xs ys r m 1 = [] := rfl
theorem Am.upto_succ {y : Nat} (h : 1 ≤ y) : Am.upto xs ys r m (y + 1) = Am.upto xs ys r m y ++ if Mp.ok xs ys (m ++ [(((xs.length - (r + 1) : Nat) : Int), (y : Int))]) then Am.more xs ys r (m ++ [(((xs.length - (r + 1) : Nat) : Int), (y : Int))]) else [] := by
  obtain ⟨q, rfl⟩ : ∃ q, y = q + 1 := ⟨y - 1, by omega⟩
  unfold Am.upto
  rw [show q + 1 + 1 - 1 = q + 1 by omega, show q + 1 - 1 = q by omega, List.range_succ, List.flatMap_append]
  simp
theorem Am.more_upto : Am.more xs ys (r + 1) m = Am.more xs ys r m ++ Am.upto xs ys r m ys.length := rfl
theorem Am.upto_pre : ∀ (y d : Nat), Am.upto xs ys r m y <+: Am.upto xs ys r m (y + d)
  | y, 0 => List.prefix_refl _
  | y, d + 1 => by
    refine (Am.upto_pre y d).trans ?_
    rcases Nat.eq_zero_or_pos (y + d) with h | h
    · rw [show y + (d + 1) = 1 by omega, h, Am.upto_zero]; exact List.nil_prefix
    · rw [show y + (d + 1) = (y + d) + 1 by omega, Am.upto_succ h]; exact List.prefix_append _ _
end

end Go.Proofs.Ytnfjdlocmdgefaa

/- Contracts (UndS). -/
namespace Go.Proofs.Ytnfjdlocmdgefaa
open Go.RowKit
set_option linter.unusedVariables false

set_option maxHeartbeats 1600000 in
set_option maxRecDepth 100000 in
theorem specUnder_any (A : Option Addr) (n c : Nat) (xs : Tr) (i j : Int) (w : World) (h : NdIn w w.heap.size A n xs) (hn : n ≤ 1048576) :
    Calls Try.prog 43 #[.slice A n c, .int .i64 i, .int .i64 j] w fun e w' => e = .returned (.bool (Tr.under xs i j)) ∧ Drawn w w' := by
  have H := Lib.hid h
  clear h
  have H0 := Lib.hid H.out
  have HD := Lib.hid (Drawn.refl w)
  rcases h1 : Tr.has xs i with _ | _
  · have Hf := Lib.hid (show Tr.under xs i j = false by unfold Tr.under; rw [h1]; rfl)
    have Hh := Lib.hid h1
    clear h1
    go_enter Try.func43, Try.ntmps43
    go_wp2_with fail
    refine (l3At_any _ _ _ xs _ _ H0.out hn).mono ?_
    rintro e w1 ⟨rfl, hd⟩
    have HD := Lib.hid (HD.out.trans hd)
    have Hw1 := Lib.hid (H0.out.to_drawn hd)
    clear hd
    rw [Hh.out]
    go_wp2
    go_ret
    exact ⟨Kit.ret_bool Hf.out.symm, HD.out⟩
  · rcases h2 : Tr.has xs j with _ | _
    · have Hf := Lib.hid (show Tr.under xs i j = false by unfold Tr.under; rw [h2, Bool.and_false]; rfl)
      have Hh := Lib.hid h1
      have Hh2 := Lib.hid h2
      clear h1 h2
      go_enter Try.func43, Try.ntmps43
      go_wp2_with fail
      refine (l3At_any _ _ _ xs _ _ H0.out hn).mono ?_
      rintro e w1 ⟨rfl, hd⟩
      have HD := Lib.hid (HD.out.trans hd)
      have Hw1 := Lib.hid (H0.out.to_drawn hd)
      clear hd
      rw [Hh.out]
      go_wp2_with fail
      refine (l3At_any _ _ _ xs _ _ Hw1.out hn).mono ?_
      rintro e w2 ⟨rfl, hd⟩
      have HD := Lib.hid (HD.out.trans hd)
      have Hw2 := Lib.hid (Hw1.out.to_drawn hd)
      clear hd
      rw [Hh2.out]
      go_wp2
      go_ret
      exact ⟨Kit.ret_bool Hf.out.symm, HD.out⟩
    · have Hf := Lib.hid (show Tr.under xs i j = (decide (i < j) && decide (j < Tr.endOf xs i)) by unfold Tr.under; rw [h1, h2]; rfl)
      have Hh := Lib.hid h1
      have Hh2 := Lib.hid h2
      clear h1 h2
      obtain ⟨E, hE⟩ : ∃ E, E = Tr.endOf xs i := ⟨_, rfl⟩
      have HE := Lib.hid hE
      rw [← hE] at Hf
      clear hE
      by_cases h3 : i < j
      · have e3 : decide (i < j) = true := by simpa using h3
        rw [e3] at Hf
        go_enter Try.func43, Try.ntmps43
        go_wp2_with fail
        refine (l3At_any _ _ _ xs _ _ H0.out hn).mono ?_
        rintro e w1 ⟨rfl, hd⟩
        have HD := Lib.hid (HD.out.trans hd)
        have Hw1 := Lib.hid (H0.out.to_drawn hd)
        clear hd
        rw [Hh.out]
        go_wp2_with fail
        refine (l3At_any _ _ _ xs _ _ Hw1.out hn).mono ?_
        rintro e w2 ⟨rfl, hd⟩
        have HD := Lib.hid (HD.out.trans hd)
        have Hw2 := Lib.hid (Hw1.out.to_drawn hd)
        clear hd
        rw [Hh2.out]
        go_wp2_with fail
        refine (specEndOf_any _ _ _ xs _ _ Hw2.out hn).mono ?_
        rintro e w3 ⟨rfl, hd⟩
        have HD := Lib.hid (HD.out.trans hd)
        clear hd
        rw [← HE.out]
        go_wp2
        go_ret
        exact ⟨Kit.ret_bool (by rw [Hf.out]; simp), HD.out⟩
      · have e3 : decide (i < j) = false := by simpa using h3
        rw [e3] at Hf
        go_enter Try.func43, Try.ntmps43
        go_wp2_with fail
        refine (l3At_any _ _ _ xs _ _ H0.out hn).mono ?_
        rintro e w1 ⟨rfl, hd⟩
        have HD := Lib.hid (HD.out.trans hd)
        have Hw1 := Lib.hid (H0.out.to_drawn hd)
        clear hd
        rw [Hh.out]
        go_wp2_with fail
        refine (l3At_any _ _ _ xs _ _ Hw1.out hn).mono ?_
        rintro e w2 ⟨rfl, hd⟩
        have HD := Lib.hid (HD.out.trans hd)
        have Hw2 := Lib.hid (Hw1.out.to_drawn hd)
        clear hd
        rw [Hh2.out]
        go_wp2
        go_ret
        exact ⟨Kit.ret_bool (by rw [Hf.out]; simp), HD.out⟩


end Go.Proofs.Ytnfjdlocmdgefaa
