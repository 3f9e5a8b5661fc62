/- Texts of one claim laid into one file, in build order: Emb, Smm, NdSm, SameI, SameS. -/
import Derived.Test.YtgkkeejhfofcaaaHd12
import Derived.Test.YtgkkeejhfofcaaaHd2
import Derived.Test.YtgkkeejhfofcaaaHd22
import Derived.Test.YtgkkeejhfofcaaaHd23
import Derived.Test.YtgkkeejhfofcaaaHd24
import Derived.Outline
import Derived.StillTailTactics
import Derived.Test.YtgkkeejhfofcaaaRows
/- Contracts (Emb). -/
namespace Go.Proofs.Ytgkkeejhfofcaaa
open Go.RowKit
set_option linter.unusedVariables false


/-! A tree of some nodes of another one, by who is under whom. -/
/-- ys stands in xs by u: the same labels, the same are under one another -/
def Em (xs : Tr) (u : Nat → Nat) (ys : Tr) : Prop :=
  Tr.ok ys = true ∧ (∀ k, k < ys.length → Tr.l ys k = Tr.l xs (u k)) ∧ ∀ j k, j < k → k < ys.length → Tr.under xs (u j : Nat) (u k : Nat) = Tr.under ys (j : Nat) (k : Nat)
/-- two trees where the same are under one another have the same depths -/
theorem Em.deep {ys zs : Tr} (hy : Tr.ok ys = true) (hz : Tr.ok zs = true) (hl : ys.length = zs.length) (h : ∀ j k, j < k → k < ys.length → Tr.under ys (j : Nat) (k : Nat) = Tr.under zs (j : Nat) (k : Nat)) : ∀ k, k < ys.length → Tr.d ys k = Tr.d zs k := by
  intro k
  induction k using Nat.strongRecOn with
  | _ k ih =>
    intro hk
    rcases Nat.eq_zero_or_pos k with rfl | h0
    · have a := (Tr.ok_at hy hk).2.2.1
      have b := (Tr.ok_at hz (hl ▸ hk)).2.2.1
      rw [a.2 rfl, b.2 rfl]
    · obtain ⟨p, hp, _, ep, hpe⟩ := Tr.parent_pos hy hk h0
      obtain ⟨q, hq, _, eq, hqe⟩ := Tr.parent_pos hz (hl ▸ hk) h0
      have u1 : Tr.under ys (p : Nat) (k : Nat) = true := by rw [Tr.under_nat hy (by omega) hk]; exact decide_eq_true ⟨hp, hpe⟩
      have u2 : Tr.under zs (q : Nat) (k : Nat) = true := by rw [Tr.under_nat hz (by omega) (by omega)]; exact decide_eq_true ⟨hq, hqe⟩
      have u3 := h p k hp hk
      have u4 := h q k hq hk
      rw [u1, Tr.under_nat hz (by omega) (by omega)] at u3
      rw [u2, Tr.under_nat hy (by omega) hk] at u4
      have v3 := of_decide_eq_true u3.symm
      have v4 := of_decide_eq_true u4
      have s1 := Tr.endN_spec ys p (by omega)
      have s2 := Tr.endN_spec zs q (by omega)
      have s3 := Tr.endN_spec ys q (by omega)
      have s4 := Tr.endN_spec zs p (by omega)
      have e : p = q := by
        rcases Nat.lt_trichotomy p q with c | c | c
        · have := s1.2.2.1 q c (by omega)
          have := s3.2.2.1 k hq v4.2
          omega
        · exact c
        · have := s2.2.2.1 p c (by omega)
          have := s4.2.2.1 k hp v3.2
          omega
      subst e
      have := ih p hp (by omega)
      omega
theorem Em.depths {xs : Tr} {u : Nat → Nat} {ys zs : Tr} (hy : Em xs u ys) (hz : Em xs u zs) (hl : ys.length = zs.length) : ∀ k, k < ys.length → Tr.d ys k = Tr.d zs k :=
  Em.deep hy.1 hz.1 hl fun j k hjk hk => by rw [← hy.2.2 j k hjk hk, hz.2.2 j k hjk (by omega)]
theorem Em.same {xs : Tr} {u : Nat → Nat} {ys zs : Tr} (hy : Em xs u ys) (hz : Em xs u zs) (hl : ys.length = zs.length) : ys = zs :=
  Tr.ext hl fun k hk => ⟨by rw [hy.2.1 k hk, hz.2.1 k (by omega)], Em.depths hy hz hl k hk⟩
theorem Em.refl {xs : Tr} (h : Tr.ok xs = true) : Em xs (fun k => k) xs := ⟨h, fun _ _ => rfl, fun _ _ _ _ => rfl⟩
theorem Em.congr {xs ys : Tr} {u v : Nat → Nat} (h : Em xs u ys) (e : ∀ k, k < ys.length → u k = v k) : Em xs v ys :=
  ⟨h.1, fun k hk => by rw [h.2.1 k hk, e k hk], fun j k hjk hk => by rw [← e k hk, ← e j (by omega)]; exact h.2.2 j k hjk hk⟩
/-- one node less -/
theorem Em.del {xs ys : Tr} {u : Nat → Nat} {i : Nat} (h : Em xs u ys) (h0 : 0 < i) (hi : i < ys.length) : Em xs (fun k => u (Oc.was i k)) (Oc.del ys i) := by
  have hlen := Oc.del_len hi
  refine ⟨Oc.del_ok h.1 hi h0, fun k hk => ?_, fun j k hjk hk => ?_⟩
  · rw [hlen] at hk
    rw [Oc.del_l hi hk]
    show _ = Tr.l xs (u (Oc.was i k))
    unfold Oc.was
    by_cases c : k < i
    · rw [if_pos c, if_pos c, h.2.1 k (by omega)]
    · rw [if_neg c, if_neg c, h.2.1 (k + 1) (by omega)]
  · rw [hlen] at hk
    rw [← Oc.del_under h.1 hi h0 hjk hk]
    refine h.2.2 _ _ ?_ ?_
    · unfold Oc.was; split <;> split <;> omega
    · unfold Oc.was; split <;> omega
end Go.Proofs.Ytgkkeejhfofcaaa

/- Contracts (Smm). -/
namespace Go.Proofs.Ytgkkeejhfofcaaa
open Go.RowKit
set_option linter.unusedVariables false


/-! With unit costs only the same trees are at distance 0. -/
section
variable {xs ys : Tr}
theorem Mp.parts {M : Tr} (h : Mp.ok xs ys M = true) {k : Nat} (hk : k < M.length) : (0 ≤ Tr.l M k ∧ Tr.l M k < xs.length) ∧ (0 ≤ Tr.d M k ∧ Tr.d M k < ys.length) ∧ ∀ j, j < k → Tr.l M j < Tr.l M k ∧ Tr.d M j < Tr.d M k ∧ Tr.under xs (Tr.l M j) (Tr.l M k) = Tr.under ys (Tr.d M j) (Tr.d M k) := by
  obtain ⟨h1, h2, h3⟩ := Mp.okAt_parts ((Mp.ok_all h).2.2 k hk)
  exact ⟨(Tr.has_iff.1 h1).2, (Tr.has_iff.1 h2).2, h3⟩
/-- a mapping as two rising functions -/
theorem Mp.as_row {M : Tr} (h : Mp.ok xs ys M = true) : M = Mp.row M.length (fun k => (Tr.l M k).toNat) (fun k => (Tr.d M k).toNat) :=
  Tr.ext (by rw [Mp.row_len]) fun k hk => by
    obtain ⟨h1, h2, _⟩ := Mp.parts h hk
    rw [Mp.row_l hk, Mp.row_d hk]
    omega
theorem Mp.sum_ge {f : Nat → Int} : ∀ n, (∀ k, k < n → 0 ≤ f k) → 0 ≤ Mp.sum f n
  | 0, _ => Int.le_refl _
  | n + 1, h => by
    have := Mp.sum_ge n (fun k hk => h k (by omega))
    have := h n (by omega)
    unfold Mp.sum
    omega
theorem Mp.sum_nil {f : Nat → Int} : ∀ n, (∀ k, k < n → 0 ≤ f k) → Mp.sum f n = 0 → ∀ k, k < n → f k = 0
  | 0, _, _, k, hk => absurd hk (Nat.not_lt_zero k)
  | n + 1, h, h0, k, hk => by
    have a := Mp.sum_ge n (fun k hk => h k (by omega))
    have b := h n (by omega)
    unfold Mp.sum at h0
    rcases Nat.lt_or_ge k n with c | c
    · exact Mp.sum_nil n (fun k hk => h k (by omega)) (by omega) k c
    · obtain rfl : k = n := by omega
      omega
theorem rise_id {u : Nat → Nat} {n : Nat} (hu : ∀ k, k < n → u k < n) (mo : ∀ j k, j < k → k < n → u j < u k) : ∀ k, k < n → u k = k := by
  have lo : ∀ k, k < n → k ≤ u k := fun k => by
    induction k with
    | zero => intro _; omega
    | succ k ih =>
      intro hk
      have := ih (by omega)
      have := mo k (k + 1) (by omega) hk
      omega
  have hi : ∀ m k, k + m + 1 = n → u k ≤ k := fun m => by
    induction m with
    | zero => intro k e; have := hu k (by omega); omega
    | succ m ih =>
      intro k e
      have := ih (k + 1) (by omega)
      have := mo k (k + 1) (by omega) (by omega)
      omega
  intro k hk
  have := lo k hk
  have := hi (n - k - 1) k (by omega)
  omega
/-- a mapping that costs nothing -/
theorem Mp.free {M : Tr} (h : Mp.ok xs ys M = true) (hc : Mp.cost xs ys Co.unit M = 0) : M.length = xs.length ∧ xs = ys ∧ ∀ k, k < M.length → Tr.l M k = k ∧ Tr.d M k = k := by
  obtain ⟨hx, hy, _⟩ := Mp.ok_all h
  have hM := Mp.as_row h
  have l1 := Mp.ok_len h
  have l2 : M.length ≤ ys.length := by
    have := Mp.ok_len (show Mp.ok ys xs (Tr.turn M) = true by rw [Mp.ok_turn]; exact h)
    rwa [show (Tr.turn M).length = M.length by simp [Tr.turn]] at this
  have hu : ∀ k, k < M.length → (Tr.l M k).toNat < xs.length := fun k hk => by have := (Mp.parts h hk).1; omega
  have hv : ∀ k, k < M.length → (Tr.d M k).toNat < ys.length := fun k hk => by have := (Mp.parts h hk).2.1; omega
  have c := Mp.row_cost hx hy (by rw [← hM]; exact h) hu hv
  rw [← hM, hc] at c
  have ge : ∀ k, k < M.length → (0 : Int) ≤ if Tr.l xs (Tr.l M k).toNat = Tr.l ys (Tr.d M k).toNat then 0 else 1 := fun k _ => by split <;> decide
  have s0 := Mp.sum_ge M.length ge
  have e1 : M.length = xs.length := by omega
  have e2 : M.length = ys.length := by omega
  have s1 := Mp.sum_nil M.length ge (by omega)
  have iu := rise_id (n := M.length) (u := fun k => (Tr.l M k).toNat) (fun k hk => by have := hu k hk; omega) (fun j k hjk hk => by have := ((Mp.parts h hk).2.2 j hjk).1; have := (Mp.parts h (Nat.lt_trans hjk hk)).1; omega)
  have iv := rise_id (n := M.length) (u := fun k => (Tr.d M k).toNat) (fun k hk => by have := hv k hk; omega) (fun j k hjk hk => by have := ((Mp.parts h hk).2.2 j hjk).2.1; have := (Mp.parts h (Nat.lt_trans hjk hk)).2.1; omega)
  have iu' : ∀ k, k < M.length → Tr.l M k = k := fun k hk => by have := (Mp.parts h hk).1; have := iu k hk; omega
  have iv' : ∀ k, k < M.length → Tr.d M k = k := fun k hk => by have := (Mp.parts h hk).2.1; have := iv k hk; omega
  refine ⟨e1, Tr.ext (by omega) fun k hk => ⟨?_, ?_⟩, fun k hk => ⟨iu' k hk, iv' k hk⟩⟩
  · have := s1 k (by omega)
    rw [iu k (by omega), iv k (by omega)] at this
    by_cases e : Tr.l xs k = Tr.l ys k
    · exact e
    · rw [if_neg e] at this; exact absurd this (by decide)
  · refine Em.deep hx hy (by omega) (fun j k hjk hk => ?_) k hk
    have := ((Mp.parts h (show k < M.length by omega)).2.2 j hjk).2.2
    rwa [iu' k (by omega), iv' k (by omega), iu' j (by omega), iv' j (by omega)] at this
/-- the distance is 0 for the same trees, and for no others -/
theorem Tr.dist_zero (hx : Tr.ok xs = true) (hy : Tr.ok ys = true) : Tr.rootDist xs ys Co.unit = 0 ↔ xs = ys := by
  have hb := Bm.best_ok (k := Co.unit) hx hy
  have hc := Bm.best_cost (k := Co.unit) hx hy Co.unit_ok
  constructor
  · intro h
    rw [h] at hc
    exact (Mp.free hb hc).2.1
  · rintro rfl
    have n := Tr.len24 hx
    have ok := Mp.row_ok (m := xs.length) (u := fun k => k) (v := fun k => k) hx hx (fun k hk => hk) (fun k hk => hk) (fun k k' h h' => ⟨h, h, rfl⟩)
    have le := Lb.root ok (Mp.row_rooted (by omega) rfl rfl) Co.unit_ok
    have es : Mp.sum (fun k => if Tr.l xs k = Tr.l xs k then (0 : Int) else 1) xs.length = 0 := by
      have : (fun k => if Tr.l xs k = Tr.l xs k then (0 : Int) else 1) = fun _ => 0 := by funext k; rw [if_pos rfl]
      rw [this, sum_zero]
    rw [Mp.row_cost hx hx ok (fun k hk => hk) (fun k hk => hk), es] at le
    have l1 := Mp.ok_len hb
    have l2 : (Bm.mt (Bm.cP xs xs) xs xs Co.unit 0 xs.length 0 xs.length).length ≤ xs.length := l1
    have c := Mp.row_cost hx hx (by rw [← Mp.as_row hb]; exact hb) (fun k hk => by have := (Mp.parts hb hk).1; omega) (fun k hk => by have := (Mp.parts hb hk).2.1; omega)
    rw [← Mp.as_row hb, hc] at c
    have s0 := Mp.sum_ge (f := fun k => if Tr.l xs (Tr.l (Bm.mt (Bm.cP xs xs) xs xs Co.unit 0 xs.length 0 xs.length) k).toNat = Tr.l xs (Tr.d (Bm.mt (Bm.cP xs xs) xs xs Co.unit 0 xs.length 0 xs.length) k).toNat then 0 else 1) (Bm.mt (Bm.cP xs xs) xs xs Co.unit 0 xs.length 0 xs.length).length (fun k _ => by split <;> decide)
    omega
/-- the best mapping of a tree to itself is that of each node to itself -/
theorem Bm.best_self (hx : Tr.ok xs = true) : Mp.ok xs xs (Bm.best xs xs Co.unit) = true ∧ Tr.rooted (Bm.best xs xs Co.unit) = true ∧ (Bm.best xs xs Co.unit).length = xs.length ∧ ∀ k, k < xs.length → Tr.l (Bm.best xs xs Co.unit) k = k ∧ Tr.d (Bm.best xs xs Co.unit) k = k := by
  have hb := Bm.best_ok (k := Co.unit) hx hx
  have hc := Bm.best_cost (k := Co.unit) hx hx Co.unit_ok
  have hr := Bm.best_rooted (k := Co.unit) hx hx
  rw [(Tr.dist_zero hx hx).2 rfl] at hc
  obtain ⟨f1, _, f2⟩ := Mp.free hb hc
  have e : Bm.best xs xs Co.unit = Bm.mt (Bm.cP xs xs) xs xs Co.unit 0 xs.length 0 xs.length := by
    unfold Bm.best
    rw [if_pos (by unfold DOk; rw [hx, Co.unit_ok]; rfl)]
  rw [e]
  exact ⟨hb, hr, f1, fun k hk => f2 k (by omega)⟩
end

end Go.Proofs.Ytgkkeejhfofcaaa

/- Two lists of nodes that agree so far. -/
namespace Go.Proofs.Ytgkkeejhfofcaaa
open Go.RowKit
set_option linter.unusedVariables false

/-- the first k nodes agree -/
def Tr.same (xs ys : Tr) (k : Nat) : Prop := ∀ j, j < k → Tr.l xs j = Tr.l ys j ∧ Tr.d xs j = Tr.d ys j

end Go.Proofs.Ytgkkeejhfofcaaa

/- Contracts (SameI). -/
namespace Go.Proofs.Ytgkkeejhfofcaaa
open Go.RowKit
set_option linter.unusedVariables false

set_option maxHeartbeats 800000 in
set_option maxRecDepth 100000 in
theorem slEqual_any (A A' : Option Addr) (n c n' c' : Nat) (xs ys : Tr) (w : World) (h : NdIn w w.heap.size A n xs) (hn : n ≤ 1048576) (h' : NdIn w w.heap.size A' n' ys) (hn' : n' ≤ 1048576) :
    Calls Try.prog 57 #[.slice A n c, .slice A' n' c'] w fun e w' => e = .returned (.bool (decide (xs = ys))) ∧ Drawn w w' := by
  have H := Lib.hid h
  have H' := Lib.hid h'
  clear h h'
  have HL := Lib.hid H.out.1
  have HL' := Lib.hid H'.out.1
  by_cases hnn : n = n'
  · go_enter Try.func57, Try.ntmps57
    have Hnn := Lib.hid hnn
    have hne : ((n : Int) != (n' : Int)) = false := by simp [hnn]
    clear hnn
    go_wp2
    go_loopw [13] (fun iv wr => ∃ k : Nat, k ≤ n ∧ iv = .int .i64 k ∧ Tr.same xs ys k ∧ Drawn w wr) (fun i _ => n - (intOf i).toNat)
    case atStart => exact ⟨0, by omega, rfl, fun j hj => absurd hj (by omega), Drawn.refl _⟩
    case round =>
      obtain ⟨k, hk, rfl, hsm, hD⟩ := hrel
      have Hsm := Lib.hid hsm
      clear hsm
      by_cases hlt : k < n
      · obtain ⟨ad, rfl, hb, hl, hd⟩ := (H.out.drawn hD).at_ hlt
        obtain ⟨ad', rfl, hb', hl', hd'⟩ := (H'.out.drawn hD).at_ (k := k) (by rw [← Hnn.out]; exact hlt)
        have hlt' : (k : Int) < (n' : Int) := by rw [← Hnn.out]; omega
        have hk0 : (0 : Int) ≤ (k : Int) := by omega
        by_cases hq1 : Tr.l xs k = Tr.l ys k
        · by_cases hq2 : Tr.d xs k = Tr.d ys k
          · have Hq := Lib.hid (And.intro hq1 hq2)
            have q1 : (Tr.l xs k == Tr.l ys k) = true := by simpa using hq1
            have q2 : (Tr.d xs k == Tr.d ys k) = true := by simpa using hq2
            clear hq1 hq2
            go_wp2
            go_quiet (fail)
            go_wp2
            go_roundw
            case rel => exact ⟨k + 1, by omega, by go_num, fun j hj => by
              rcases Nat.lt_succ_iff_lt_or_eq.1 hj with h' | rfl
              · exact Hsm.out j h'
              · exact Hq.out, hD.drewN _⟩
            case measure => simp [intOf]; omega
          · have Hq := Lib.hid hq2
            have q1 : (Tr.l xs k == Tr.l ys k) = true := by simpa using hq1
            have q2 : (Tr.d xs k == Tr.d ys k) = false := by simpa using hq2
            clear hq1 hq2
            go_wp2
            go_quiet (fail)
            go_wp2
            go_ret
            refine ⟨Kit.ret_bool ?_, hD.drewN _⟩
            symm
            rw [decide_eq_false_iff_not]
            rintro rfl
            exact Hq.out rfl
        · have Hq := Lib.hid hq1
          have q1 : (Tr.l xs k == Tr.l ys k) = false := by simpa using hq1
          clear hq1
          go_wp2
          go_quiet (fail)
          go_wp2
          go_ret
          refine ⟨Kit.ret_bool ?_, hD.drewN _⟩
          symm
          rw [decide_eq_false_iff_not]
          rintro rfl
          exact Hq.out rfl
      · obtain rfl : k = n := by omega
        go_wp2
        go_ret
        refine ⟨Kit.ret_bool ?_, hD⟩
        symm
        rw [decide_eq_true_eq]
        exact Tr.ext (by rw [HL.out, HL'.out]; exact Hnn.out) (fun j hj => Hsm.out j (by rw [← HL.out]; exact hj))
  · have hne : ((n : Int) != (n' : Int)) = true := by simp; omega
    have Hq := Lib.hid (show decide (xs = ys) = false by
      rw [decide_eq_false_iff_not]; rintro rfl; exact hnn (HL.out.symm.trans HL'.out))
    clear hnn
    go_enter Try.func57, Try.ntmps57
    go_wp2
    go_ret
    exact ⟨Kit.ret_bool Hq.out.symm, Drawn.refl _⟩

set_option maxHeartbeats 800000 in
set_option maxRecDepth 100000 in
theorem implSameTree_any (A A' : Option Addr) (n c n' c' : Nat) (xs ys : Tr) (w : World) (h : NdIn w w.heap.size A n xs) (hn : n ≤ 1048576) (h' : NdIn w w.heap.size A' n' ys) (hn' : n' ≤ 1048576) :
    Calls Try.prog 13 #[.slice A n c, .slice A' n' c'] w fun e w' => e = .returned (.bool (decide (xs = ys))) ∧ Drawn w w' := by
  have H := Lib.hid h
  have H' := Lib.hid h'
  clear h h'
  go_enter Try.func13, Try.ntmps13
  go_wp2_with fail
  refine (slEqual_any _ _ _ _ _ _ xs ys _ H.out hn H'.out hn').mono ?_
  rintro e w1 ⟨rfl, hd⟩
  go_wp2
  go_ret
  exact ⟨rfl, hd⟩

end Go.Proofs.Ytgkkeejhfofcaaa

/- Contracts (SameS). -/
namespace Go.Proofs.Ytgkkeejhfofcaaa
open Go.RowKit
set_option linter.unusedVariables false

set_option maxHeartbeats 800000 in
set_option maxRecDepth 100000 in
theorem specSameTree_any (A A' : Option Addr) (n c n' c' : Nat) (xs ys : Tr) (w : World) (h : NdIn w w.heap.size A n xs) (hn : n ≤ 1048576) (h' : NdIn w w.heap.size A' n' ys) (hn' : n' ≤ 1048576) :
    Calls Try.prog 18 #[.slice A n c, .slice A' n' c'] w fun e w' => e = .returned (.bool (decide (xs = ys))) ∧ Drawn w w' := by
  have H := Lib.hid h
  have H' := Lib.hid h'
  clear h h'
  have HL := Lib.hid H.out.1
  have HL' := Lib.hid H'.out.1
  by_cases hnn : n = n'
  · go_enter Try.func18, Try.ntmps18
    have Hnn := Lib.hid hnn
    have hne : ((n : Int) != (n' : Int)) = false := by simp [hnn]
    clear hnn
    go_wp2
    go_loopw [5] (fun iv wr => ∃ k : Nat, k ≤ n ∧ iv = .int .i64 k ∧ Tr.same xs ys k ∧ Drawn w wr) (fun i _ => n - (intOf i).toNat)
    case atStart => exact ⟨0, by omega, rfl, fun j hj => absurd hj (by omega), Drawn.refl _⟩
    case round =>
      obtain ⟨k, hk, rfl, hsm, hD⟩ := hrel
      have Hsm := Lib.hid hsm
      clear hsm
      by_cases hlt : k < n
      · obtain ⟨ad, rfl, hb, hl, hd⟩ := (H.out.drawn hD).at_ hlt
        obtain ⟨ad', rfl, hb', hl', hd'⟩ := (H'.out.drawn hD).at_ (k := k) (by rw [← Hnn.out]; exact hlt)
        have hlt' : (k : Int) < (n' : Int) := by rw [← Hnn.out]; omega
        have hk0 : (0 : Int) ≤ (k : Int) := by omega
        by_cases hq1 : Tr.l xs k = Tr.l ys k
        · by_cases hq2 : Tr.d xs k = Tr.d ys k
          · have Hq := Lib.hid (And.intro hq1 hq2)
            have q1 : (Tr.l xs k == Tr.l ys k) = true := by simpa using hq1
            have q2 : (Tr.d xs k == Tr.d ys k) = true := by simpa using hq2
            clear hq1 hq2
            go_wp2
            go_quiet (fail)
            go_wp2
            go_roundw
            case rel => exact ⟨k + 1, by omega, by go_num, fun j hj => by
              rcases Nat.lt_succ_iff_lt_or_eq.1 hj with h' | rfl
              · exact Hsm.out j h'
              · exact Hq.out, hD.drewN _⟩
            case measure => simp [intOf]; omega
          · have Hq := Lib.hid hq2
            have q1 : (Tr.l xs k == Tr.l ys k) = true := by simpa using hq1
            have q2 : (Tr.d xs k == Tr.d ys k) = false := by simpa using hq2
            clear hq1 hq2
            go_wp2
            go_quiet (fail)
            go_wp2
            go_ret
            refine ⟨Kit.ret_bool ?_, hD.drewN _⟩
            symm
            rw [decide_eq_false_iff_not]
            rintro rfl
            exact Hq.out rfl
        · have Hq := Lib.hid hq1
          have q1 : (Tr.l xs k == Tr.l ys k) = false := by simpa using hq1
          clear hq1
          go_wp2
          go_quiet (fail)
          go_wp2
          go_ret
          refine ⟨Kit.ret_bool ?_, hD.drewN _⟩
          symm
          rw [decide_eq_false_iff_not]
          rintro rfl
          exact Hq.out rfl
      · obtain rfl : k = n := by omega
        go_wp2
        go_ret
        refine ⟨Kit.ret_bool ?_, hD⟩
        symm
        rw [decide_eq_true_eq]
        exact Tr.ext (by rw [HL.out, HL'.out]; exact Hnn.out) (fun j hj => Hsm.out j (by rw [← HL.out]; exact hj))
  · have hne : ((n : Int) != (n' : Int)) = true := by simp; omega
    have Hq := Lib.hid (show decide (xs = ys) = false by
      rw [decide_eq_false_iff_not]; rintro rfl; exact hnn (HL.out.symm.trans HL'.out))
    clear hnn
    go_enter Try.func18, Try.ntmps18
    go_wp2
    go_ret
    exact ⟨Kit.ret_bool Hq.out.symm, Drawn.refl _⟩

end Go.Proofs.Ytgkkeejhfofcaaa
