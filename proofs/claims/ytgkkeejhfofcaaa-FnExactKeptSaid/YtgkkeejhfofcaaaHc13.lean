/- Texts of one claim laid into one file, in build order: Emb, Wo, KpM, CloneI, ShI. -/
import Derived.Test.YtgkkeejhfofcaaaHc11
import Derived.Test.YtgkkeejhfofcaaaHc12
import Derived.Test.YtgkkeejhfofcaaaHc2
import Derived.Test.YtgkkeejhfofcaaaHc3
import Derived.Test.YtgkkeejhfofcaaaHc8
import Derived.Outline
import Derived.Test.YtgkkeejhfofcaaaRows
/- Contracts (Emb). -/
namespace Go.Proofs.Ytgkkeejhfofcaaa
open Go.RowKit
set_option linter.unusedVariables false


/-! A tree of some nodes of another one, by who is under whom. -/
/-- ys stands in xs by u: the same labels, the same are under one another -/
def Em (xs : Tr) (u : Nat → Nat) (ys : Tr) : Prop :=
  Tr.ok ys = true ∧ (∀ k, k < ys.length → Tr.l ys k = Tr.l xs (u k)) ∧ ∀ j k, j < k → k < ys.length → Tr.under xs (u j : Nat) (u k : Nat) = Tr.under ys (j : Nat) (k : Nat)
/-- two trees where the same are under one another have the same depths -/
theorem Em.deep {ys zs : Tr} (hy : Tr.ok ys = true) (hz : Tr.ok zs = true) (hl : ys.length = zs.length) (h : ∀ j k, j < k → k < ys.length → Tr.under ys (j : Nat) (k : Nat) = Tr.under zs (j : Nat) (k : Nat)) : ∀ k, k < ys.length → Tr.d ys k = Tr.d zs k := by
  intro k
  induction k using Nat.strongRecOn with
  | _ k ih =>
    intro hk
    rcases Nat.eq_zero_or_pos k with rfl | h0
    · have a := (Tr.ok_at hy hk).2.2.1
      have b := (Tr.ok_at hz (hl ▸ hk)).2.2.1
      rw [a.2 rfl, b.2 rfl]
    · obtain ⟨p, hp, _, ep, hpe⟩ := Tr.parent_pos hy hk h0
      obtain ⟨q, hq, _, eq, hqe⟩ := Tr.parent_pos hz (hl ▸ hk) h0
      have u1 : Tr.under ys (p : Nat) (k : Nat) = true := by rw [Tr.under_nat hy (by omega) hk]; exact decide_eq_true ⟨hp, hpe⟩
      have u2 : Tr.under zs (q : Nat) (k : Nat) = true := by rw [Tr.under_nat hz (by omega) (by omega)]; exact decide_eq_true ⟨hq, hqe⟩
      have u3 := h p k hp hk
      have u4 := h q k hq hk
      rw [u1, Tr.under_nat hz (by omega) (by omega)] at u3
      rw [u2, Tr.under_nat hy (by omega) hk] at u4
      have v3 := of_decide_eq_true u3.symm
      have v4 := of_decide_eq_true u4
      have s1 := Tr.endN_spec ys p (by omega)
      have s2 := Tr.endN_spec zs q (by omega)
      have s3 := Tr.endN_spec ys q (by omega)
      have s4 := Tr.endN_spec zs p (by omega)
      have e : p = q := by
        rcases Nat.lt_trichotomy p q with c | c | c
        · have := s1.2.2.1 q c (by omega)
          have := s3.2.2.1 k hq v4.2
          omega
        · exact c
        · have := s2.2.2.1 p c (by omega)
          have := s4.2.2.1 k hp v3.2
          omega
      subst e
      have := ih p hp (by omega)
      omega
theorem Em.depths {xs : Tr} {u : Nat → Nat} {ys zs : Tr} (hy : Em xs u ys) (hz : Em xs u zs) (hl : ys.length = zs.length) : ∀ k, k < ys.length → Tr.d ys k = Tr.d zs k :=
  Em.deep hy.1 hz.1 hl fun j k hjk hk => by rw [← hy.2.2 j k hjk hk, hz.2.2 j k hjk (by omega)]
theorem Em.same {xs : Tr} {u : Nat → Nat} {ys zs : Tr} (hy : Em xs u ys) (hz : Em xs u zs) (hl : ys.length = zs.length) : ys = zs :=
  Tr.ext hl fun k hk => ⟨by rw [hy.2.1 k hk, hz.2.1 k (by omega)], Em.depths hy hz hl k hk⟩
theorem Em.refl {xs : Tr} (h : Tr.ok xs = true) : Em xs (fun k => k) xs := ⟨h, fun _ _ => rfl, fun _ _ _ _ => rfl⟩
theorem Em.congr {xs ys : Tr} {u v : Nat → Nat} (h : Em xs u ys) (e : ∀ k, k < ys.length → u k = v k) : Em xs v ys :=
  ⟨h.1, fun k hk => by rw [h.2.1 k hk, e k hk], fun j k hjk hk => by rw [← e k hk, ← e j (by omega)]; exact h.2.2 j k hjk hk⟩
/-- one node less -/
theorem Em.del {xs ys : Tr} {u : Nat → Nat} {i : Nat} (h : Em xs u ys) (h0 : 0 < i) (hi : i < ys.length) : Em xs (fun k => u (Oc.was i k)) (Oc.del ys i) := by
  have hlen := Oc.del_len hi
  refine ⟨Oc.del_ok h.1 hi h0, fun k hk => ?_, fun j k hjk hk => ?_⟩
  · rw [hlen] at hk
    rw [Oc.del_l hi hk]
    show _ = Tr.l xs (u (Oc.was i k))
    unfold Oc.was
    by_cases c : k < i
    · rw [if_pos c, if_pos c, h.2.1 k (by omega)]
    · rw [if_neg c, if_neg c, h.2.1 (k + 1) (by omega)]
  · rw [hlen] at hk
    rw [← Oc.del_under h.1 hi h0 hjk hk]
    refine h.2.2 _ _ ?_ ?_
    · unfold Oc.was; split <;> split <;> omega
    · unfold Oc.was; split <;> omega
end Go.Proofs.Ytgkkeejhfofcaaa

/- Contracts (Wo). -/
namespace Go.Proofs.Ytgkkeejhfofcaaa
open Go.RowKit
set_option linter.unusedVariables false


/-! Nodes taken out of a tree, the last one first. -/
def Wo (xs : Tr) : List Nat → Tr
  | [] => xs
  | x :: S => Oc.del (Wo xs S) x
/-- what stays -/
def Wo.kept (n : Nat) (S : List Nat) : List Nat := (List.range n).filter fun k => !S.contains k
/-- how many of those that go stand above node k -/
def Wo.anc (xs : Tr) (S : List Nat) (k : Nat) : Nat := S.countP fun j => decide (j < k) && decide (k < Tr.endN xs j)
/-- nodes in ascending order, all below the root -/
def Wo.asc (n : Nat) (S : List Nat) : Prop := S.Pairwise (· < ·) ∧ ∀ x ∈ S, 0 < x ∧ x < n
theorem Wo.asc_tail {n x : Nat} {S : List Nat} (h : Wo.asc n (x :: S)) : Wo.asc n S ∧ (0 < x ∧ x < n) ∧ ∀ y ∈ S, x < y :=
  ⟨⟨(List.pairwise_cons.1 h.1).2, fun y hy => h.2 y (List.mem_cons_of_mem _ hy)⟩, h.2 x (List.mem_cons_self), (List.pairwise_cons.1 h.1).1⟩
theorem range_split {n x : Nat} (h : x < n) : List.range n = List.range x ++ (x :: (List.range (n - x - 1)).map (x + 1 + ·)) := by
  have e : n = (x + 1) + (n - x - 1) := by omega
  rw [show List.range n = List.range ((x + 1) + (n - x - 1)) by rw [← e], List.range_add, List.range_succ, List.append_assoc]
  rfl
theorem Wo.kept_low {n x : Nat} {S : List Nat} (hx : x < n) (h : ∀ y ∈ S, x < y) : ∃ T, Wo.kept n S = List.range x ++ x :: T ∧ Wo.kept n (x :: S) = List.range x ++ T ∧ ∀ y ∈ T, x < y := by
  have no : ∀ k, k ≤ x → S.contains k = false := fun k hk => by
    rw [Bool.eq_false_iff]
    intro c
    have := h k (List.contains_iff_mem.1 c)
    omega
  refine ⟨((List.range (n - x - 1)).map (x + 1 + ·)).filter fun k => !S.contains k, ?_, ?_, fun y hy => ?_⟩
  · unfold Wo.kept
    rw [range_split hx, List.filter_append, List.filter_cons, no x (Nat.le_refl x)]
    rw [List.filter_eq_self.2 (fun k hk => by rw [no k (Nat.le_of_lt (List.mem_range.1 hk))]; rfl)]
    rfl
  · unfold Wo.kept
    rw [range_split hx, List.filter_append, List.filter_cons]
    have c1 : (x :: S).contains x = true := by simp
    rw [c1]
    have f1 : (List.range x).filter (fun k => !(x :: S).contains k) = List.range x := List.filter_eq_self.2 fun k hk => by
      have := List.mem_range.1 hk
      have := no k (by omega)
      rw [List.contains_cons, this]
      simp
      omega
    rw [f1]
    simp only [Bool.not_true, Bool.false_eq_true, if_false]
    congr 1
    apply List.filter_congr
    intro k hk
    obtain ⟨t, _, rfl⟩ := List.mem_map.1 hk
    rw [List.contains_cons]
    have : (x + 1 + t == x) = false := by simp; omega
    rw [this, Bool.false_or]
  · obtain ⟨h1, _⟩ := List.mem_filter.1 hy
    obtain ⟨t, _, rfl⟩ := List.mem_map.1 h1
    omega
theorem Wo.kept_was {n x : Nat} {S : List Nat} (hx : x < n) (h : ∀ y ∈ S, x < y) : (Wo.kept n (x :: S)).length + 1 = (Wo.kept n S).length ∧ x < (Wo.kept n S).length ∧ (∀ k, k ≤ x → (Wo.kept n S).getD k 0 = k) ∧ (∀ k, x < k → k < (Wo.kept n S).length → x < (Wo.kept n S).getD k 0) ∧ ∀ k, (Wo.kept n (x :: S)).getD k 0 = (Wo.kept n S).getD (Oc.was x k) 0 := by
  obtain ⟨T, e1, e2, hT⟩ := Wo.kept_low hx h
  have e1' : Wo.kept n S = (List.range x ++ [x]) ++ T := by rw [e1]; simp
  refine ⟨by rw [e1, e2]; simp; omega, by rw [e1]; simp, fun k hk => ?_, fun k hk hl => ?_, fun k => ?_⟩
  · rw [e1', ← List.range_succ]
    simp [List.getD_eq_getElem?_getD, List.getElem?_append, show k < x + 1 by omega]
  · rw [e1'] at hl ⊢
    have hk2 : k - (x + 1) < T.length := by simp at hl; omega
    rw [List.getD_eq_getElem?_getD, List.getElem?_append_right (by simp; omega)]
    have : k - (List.range x ++ [x]).length = k - (x + 1) := by simp
    rw [this, List.getElem?_eq_getElem hk2]
    exact hT _ (List.getElem_mem hk2)
  · rw [e1', e2]
    unfold Oc.was
    by_cases c : k < x
    · rw [if_pos c]
      simp [List.getD_eq_getElem?_getD, List.getElem?_append, c]
    · rw [if_neg c, List.getD_eq_getElem?_getD, List.getD_eq_getElem?_getD, List.getElem?_append_right (by simp; omega), List.getElem?_append_right (by simp; omega)]
      simp only [List.length_append, List.length_range, List.length_cons, List.length_nil]
      congr 2
      omega
theorem Wo.kept_nil (n : Nat) : Wo.kept n [] = List.range n := by
  unfold Wo.kept
  exact List.filter_eq_self.2 fun k _ => rfl
/-- the tree of what stays, by its places and by its depths -/
theorem Wo.tree {xs : Tr} (hok : Tr.ok xs = true) : ∀ S, Wo.asc xs.length S → Em xs (fun k => (Wo.kept xs.length S).getD k 0) (Wo xs S) ∧ (Wo xs S).length = (Wo.kept xs.length S).length ∧ ∀ k, k < (Wo xs S).length → Tr.d (Wo xs S) k = Tr.d xs ((Wo.kept xs.length S).getD k 0) - (Wo.anc xs S ((Wo.kept xs.length S).getD k 0) : Nat)
  | [], _ => by
    have e : ∀ k, k < xs.length → (Wo.kept xs.length []).getD k 0 = k := fun k hk => by rw [Wo.kept_nil]; simp [List.getD_eq_getElem?_getD, hk]
    refine ⟨(Em.refl hok).congr fun k hk => (e k hk).symm, by rw [Wo.kept_nil]; simp [Wo], fun k hk => ?_⟩
    have hk' : k < xs.length := hk
    rw [e k hk']
    simp [Wo, Wo.anc]
  | x :: S, h => by
    obtain ⟨hS, ⟨h0, hx⟩, hlt⟩ := Wo.asc_tail h
    obtain ⟨em, len, dep⟩ := Wo.tree hok S hS
    obtain ⟨k1, k2, k3, k4, k5⟩ := Wo.kept_was hx hlt
    have hxl : x < (Wo xs S).length := by omega
    have dl : (Oc.del (Wo xs S) x).length = (Wo xs S).length - 1 := Oc.del_len hxl
    refine ⟨?_, ?_, fun k hk => ?_⟩
    · exact (em.del h0 hxl).congr fun k _ => (k5 k).symm
    · show (Oc.del (Wo xs S) x).length = _
      omega
    · show Tr.d (Oc.del (Wo xs S) x) k = _
      have hk' : k < (Wo xs S).length - 1 := by rw [← dl]; exact hk
      rw [k5 k, Oc.del_d hxl hk']
      unfold Oc.was
      have anc : ∀ y, Wo.anc xs (x :: S) y = Wo.anc xs S y + if x < y ∧ y < Tr.endN xs x then 1 else 0 := fun y => by
        unfold Wo.anc
        rw [List.countP_cons]
        congr 1
        by_cases c : x < y ∧ y < Tr.endN xs x
        · rw [if_pos c, if_pos (by simp [c.1, c.2])]
        · rw [if_neg c, if_neg (by simpa using c)]
      rw [anc]
      by_cases c : k < x
      · rw [if_pos c, if_pos c, dep k (by omega), k3 k (by omega), if_neg (by omega)]
        rfl
      · rw [if_neg c, if_neg c]
        have hy := k4 (k + 1) (by omega) (by omega)
        have u := em.2.2 x (k + 1) (by omega) (by omega)
        have hyn : (Wo.kept xs.length S).getD (k + 1) 0 < xs.length := by
          have hm : (Wo.kept xs.length S).getD (k + 1) 0 ∈ Wo.kept xs.length S := by
            rw [List.getD_eq_getElem?_getD, List.getElem?_eq_getElem (show k + 1 < (Wo.kept xs.length S).length by omega)]
            exact List.getElem_mem _
          exact List.mem_range.1 (List.mem_filter.1 hm).1
        simp only [k3 x (Nat.le_refl x)] at u
        rw [Tr.under_nat hok hx hyn, Tr.under_nat em.1 hxl (by omega)] at u
        have u' : (k + 1 < Tr.endN (Wo xs S) x) ↔ (x < (Wo.kept xs.length S).getD (k + 1) 0 ∧ (Wo.kept xs.length S).getD (k + 1) 0 < Tr.endN xs x) := by
          have := decide_eq_decide.1 u
          constructor
          · intro hh; exact this.2 ⟨by omega, hh⟩
          · intro hh; exact (this.1 hh).2
        rw [dep (k + 1) (by omega)]
        by_cases c2 : k + 1 < Tr.endN (Wo xs S) x
        · rw [if_pos c2, if_pos (u'.1 c2)]; omega
        · rw [if_neg c2, if_neg (fun hh => c2 (u'.2 hh))]; rfl

end Go.Proofs.Ytgkkeejhfofcaaa

/- Contracts (KpM). -/
namespace Go.Proofs.Ytgkkeejhfofcaaa
open Go.RowKit
set_option linter.unusedVariables false


/-! The tree of the nodes that are first of some pair. -/
def Kp.gone (ms : Tr) (n : Nat) : List Nat := (List.range n).filter fun k => !Un.has ms (k : Int) ms.length
theorem Kp.un (ms : Tr) : ∀ n, Un.to ms n = Zs.up (Kp.gone ms n)
  | 0 => rfl
  | n + 1 => by
    have ih := Kp.un ms n
    unfold Kp.gone at ih ⊢
    rw [List.range_succ, List.filter_append]
    unfold Zs.up at ih ⊢
    rw [List.map_append, ← ih, Un.to]
    cases h : Un.has ms (n : Int) ms.length <;> simp [h]
theorem Kp.mem {ms : Tr} {n x : Nat} : x ∈ Kp.gone ms n ↔ x < n ∧ Un.has ms (x : Int) ms.length = false := by
  unfold Kp.gone
  rw [List.mem_filter, List.mem_range]
  cases Un.has ms (x : Int) ms.length <;> simp
theorem Kp.asc {ms : Tr} {n : Nat} (h : Un.has ms 0 ms.length = true) : Wo.asc n (Kp.gone ms n) := by
  refine ⟨List.Pairwise.filter _ List.pairwise_lt_range, fun x hx => ?_⟩
  obtain ⟨h1, h2⟩ := Kp.mem.1 hx
  refine ⟨?_, h1⟩
  rcases Nat.eq_zero_or_pos x with rfl | h0
  · rw [show ((0 : Nat) : Int) = 0 from rfl, h] at h2; cases h2
  · exact h0
def Kp.of (xs ms : Tr) : Tr := if Tr.ok xs && Un.has ms 0 ms.length then Wo xs (Kp.gone ms xs.length) else []
theorem Kp.no_tree {xs ms : Tr} (h : Tr.ok xs = false) : Kp.of xs ms = [] := by unfold Kp.of; rw [h]; rfl
theorem Kp.no_root {xs ms : Tr} (h : Un.has ms 0 ms.length = false) : Kp.of xs ms = [] := by unfold Kp.of; rw [h, Bool.and_false]; rfl
theorem Kp.yes {xs ms : Tr} (h : Tr.ok xs = true) (h0 : Un.has ms 0 ms.length = true) : Kp.of xs ms = Wo xs (Kp.gone ms xs.length) := by unfold Kp.of; rw [h, h0]; rfl
theorem Kp.root_mem {ms : Tr} {n : Nat} (hn : 0 < n) : (0 : Int) ∈ Un.to ms n ↔ Un.has ms 0 ms.length = false := by
  rw [Kp.un]
  unfold Zs.up
  constructor
  · intro h
    obtain ⟨x, hx, e⟩ := List.mem_map.1 h
    obtain rfl : x = 0 := by omega
    exact (Kp.mem.1 hx).2
  · intro h
    exact List.mem_map.2 ⟨0, Kp.mem.2 ⟨hn, h⟩, rfl⟩
theorem Kp.len (xs ms : Tr) : (Kp.of xs ms).length ≤ 24 := by
  rcases h : Tr.ok xs with _ | _
  · rw [Kp.no_tree h]; exact Nat.zero_le _
  · rcases h0 : Un.has ms 0 ms.length with _ | _
    · rw [Kp.no_root h0]; exact Nat.zero_le _
    · rw [Kp.yes h h0]
      have := Tr.len24 h
      obtain ⟨_, e, _⟩ := Wo.tree h _ (Kp.asc (n := xs.length) h0)
      rw [e]
      unfold Wo.kept
      have := List.length_filter_le (fun k => !(Kp.gone ms xs.length).contains k) (List.range xs.length)
      rw [List.length_range] at this
      omega

end Go.Proofs.Ytgkkeejhfofcaaa

/- Contracts (CloneI). -/
namespace Go.Proofs.Ytgkkeejhfofcaaa
open Go.RowKit
set_option linter.unusedVariables false

theorem info_ndC : (Try.prog.info? 47).map (fun i => (i.zero, i.size, i.bytes)) = some (some (.agg #[.int .i64 0, .int .i64 0]), 2, 16) := by kernel_rfl

set_option maxHeartbeats 800000 in
set_option maxRecDepth 100000 in
theorem cloneNode_any (ad : Addr) (n c : Nat) (xs : Tr) (w : World) (h : NdIn w w.heap.size (some ad) n xs) (hn : n ≤ 1048576) :
    Calls Try.prog 75 #[.slice (some ad) n c] w (OwnNodes 47 xs w) := by
  have H := Lib.hid h
  clear h
  have HL := Lib.hid H.out.1
  obtain ⟨i0, hi, hz0, hz1, hz2⟩ := info_parts info_ndC
  have hnil := fun W : World => Lib.run_eql_slice_nil (P := Try.prog) W
  go_enter Try.func75, Try.ntmps75
  go_wp2_with (at_builtin; refine wpList_append_own (World.alloc w (.cells #[] 47)) rfl _ _ 24 rfl w.heap.size 47 i0 (.agg #[.int .i64 0, .int .i64 0]) 2 16 Try.underlying24 hi hz0 hz1 hz2 rfl (by omega) (.slice (some ⟨w.heap.size, 0, none⟩) 0 0) 0 [] rfl (World.ownsRow_lit w #[] 0 (Nat.le_refl _) (Nat.zero_le _) rfl) ad n c (Tr.cells xs) rfl (by rw [Tr.cells_length, HL.out]) (NdIn.cells_at (H.out.to_below ((Below.refl _ _).alloc (Nat.le_refl _) _))) (Tr.cells_cell xs) (by unfold maxLen; omega) (by omega) (by simp) ?_; intro v' w1 hown1 hgrow1 hnil1)
  clear hnil1 hnil
  have hown2 : w1.ownsRow w.heap.size 47 2 v' n (Tr.cells xs) := by simpa using hown1
  obtain ⟨A', c', rfl⟩ := own_slice hown2
  have hb : Below w.heap.size w w1 := ((Below.refl w.heap.size w).alloc (Nat.le_refl _) _).grown hgrow1 (by simp) (fun k hk => by simp [Value.ownBlock] at hk; omega)
  go_ret
  exact ⟨A', c', by rw [HL.out]; rfl, by rw [HL.out]; exact hown2, hb⟩

end Go.Proofs.Ytgkkeejhfofcaaa

/- Contracts (ShI). -/
namespace Go.Proofs.Ytgkkeejhfofcaaa
open Go.RowKit
set_option linter.unusedVariables false

/-- a cut of a slice of nodes -/
theorem NdIn.cut {w : World} {B n : Nat} {ad : Addr} {xs : Tr} (h : NdIn w B (some ad) n xs) {j m : Nat} (hjm : j + m ≤ n) : NdIn w B (some (ad.add (j * 2))) m ((xs.drop j).take m) := by
  refine ⟨by have := h.1; simp; omega, fun hm => ⟨_, rfl, ?_⟩, fun ad' e k hk => ?_⟩
  · rw [block_of_add]
    obtain ⟨ad', e, hb⟩ := h.2.1 (by omega)
    obtain rfl : ad = ad' := by injection e
    exact hb
  · obtain rfl : ad.add (j * 2) = ad' := by injection e
    have hc := h.2.2 ad rfl (j + k) (by omega)
    have hg : ((xs.drop j).take m).getD k (0, 0) = xs.getD (j + k) (0, 0) := by
      simp [List.getD_eq_getElem?_getD, hk]
    rw [add_of_add, add_of_add, show j * 2 + k * 2 = (j + k) * 2 by omega, show j * 2 + (k * 2 + 1) = (j + k) * 2 + 1 by omega]
    simp only [Tr.l, Tr.d] at hc ⊢
    rw [hg]
    exact hc
theorem Tr.cells_set_odd (xs : Tr) (k : Nat) (b : Int) : (Tr.cells xs).set (k * 2 + 1) (.int .i64 b) = Tr.cells (xs.set k (Tr.l xs k, b)) := by
  induction xs generalizing k with
  | nil => simp [Tr.cells]
  | cons x l ih =>
    cases k with
    | zero => simp [Tr.cells, Tr.l]
    | succ k =>
      have := ih k
      simp only [Tr.cells, Tr.l] at this ⊢
      simpa [show (k + 1) * 2 = k * 2 + 1 + 1 by omega] using this
/-- the first k nodes that many levels deeper -/
def Tr.up (xs : Tr) (dd : Int) (k : Nat) : Tr := (List.range xs.length).map fun t => (Tr.l xs t, if t < k then Tr.d xs t + dd else Tr.d xs t)
theorem Tr.up_length (xs : Tr) (dd : Int) (k : Nat) : (Tr.up xs dd k).length = xs.length := by simp [Tr.up]
theorem Tr.up_l {xs : Tr} {dd : Int} {k t : Nat} (h : t < xs.length) : Tr.l (Tr.up xs dd k) t = Tr.l xs t := by simp [Tr.up, Tr.l, List.getD_eq_getElem?_getD, h]
theorem Tr.up_d {xs : Tr} {dd : Int} {k t : Nat} (h : t < xs.length) : Tr.d (Tr.up xs dd k) t = if t < k then Tr.d xs t + dd else Tr.d xs t := by
  simp only [Tr.up, Tr.d, List.getD_eq_getElem?_getD]
  rw [List.getElem?_map, List.getElem?_range h]
  rfl
theorem Tr.up_none (xs : Tr) (dd : Int) : Tr.up xs dd 0 = xs := by
  refine Tr.ext (Tr.up_length _ _ _) fun k hk => ?_
  rw [Tr.up_length] at hk
  rw [Tr.up_l hk, Tr.up_d hk, if_neg (by omega)]
  exact ⟨rfl, rfl⟩
theorem Tr.up_set (xs : Tr) (dd : Int) (k : Nat) (h : k < xs.length) : (Tr.up xs dd k).set k (Tr.l xs k, Tr.d xs k + dd) = Tr.up xs dd (k + 1) := by
  refine List.ext_getElem (by simp [Tr.up]) fun t h1 h2 => ?_
  rw [Tr.up_length] at h2
  by_cases e : t = k
  · subst e
    simp [Tr.up]
  · rw [List.getElem_set_ne (by omega)]
    simp only [Tr.up, List.getElem_map, List.getElem_range]
    by_cases q : t < k
    · rw [if_pos q, if_pos (by omega)]
    · rw [if_neg q, if_neg (by omega)]
/-- nodes cut out and shifted -/
theorem Tr.up_cut (xs : Tr) (dd : Int) {j m : Nat} (h : j + m ≤ xs.length) : Tr.up ((xs.drop j).take m) dd m = (List.range m).map fun t => (Tr.l xs (j + t), Tr.d xs (j + t) + dd) := by
  have hl : ((xs.drop j).take m).length = m := by simp; omega
  unfold Tr.up
  rw [hl]
  refine List.map_congr_left fun t ht => ?_
  have ht := List.mem_range.1 ht
  have hg : ((xs.drop j).take m).getD t (0, 0) = xs.getD (j + t) (0, 0) := by simp [List.getD_eq_getElem?_getD, ht]
  rw [if_pos ht]
  simp only [Tr.l, Tr.d, hg]
set_option maxHeartbeats 800000 in
set_option maxRecDepth 100000 in
theorem shifted_any (ad : Addr) (n c : Nat) (xs : Tr) (dd : Int) (w : World) (h : NdIn w w.heap.size (some ad) n xs) (hn : n ≤ 1048576) (hd : -4000 ≤ dd ∧ dd ≤ 4000) (hx : ∀ k, k < n → -4000 ≤ Tr.d xs k ∧ Tr.d xs k ≤ 4000) :
    Calls Try.prog 135 #[.slice (some ad) n c, .int .i64 dd] w (OwnNodes 47 (Tr.up xs dd n) w) := by
  have H := Lib.hid h
  clear h
  have HL := Lib.hid H.out.1
  have HX := Lib.hid hx
  clear hx
  go_enter Try.func135, Try.ntmps135
  go_wp2_with fail
  refine (cloneNode_any _ _ _ xs _ H.out hn).mono ?_
  rintro e w3 ⟨A3, c3, rfl, hown3, hb3⟩
  rw [HL.out] at hown3 ⊢
  have Ho3 := Lib.hid hown3
  have Hb3 := Lib.hid hb3
  have H3 := Lib.hid (H.out.to_below hb3)
  clear hown3 hb3
  go_wp2
  go_loopw [11] (fun kv wr => ∃ k : Nat, k ≤ n ∧ kv = .int .i64 k ∧ wr.ownsRow w.heap.size 47 2 (.slice A3 n c3) n (Tr.cells (Tr.up xs dd k)) ∧ Below w.heap.size w wr) (fun k _ => n - (intOf k).toNat)
  case atStart => exact ⟨0, by omega, rfl, by rw [Tr.up_none]; exact Ho3.out, Hb3.out⟩
  case round =>
    obtain ⟨k, hk, rfl, hown, hB⟩ := hrel
    have Ho := Lib.hid hown
    have HB := Lib.hid hB
    by_cases hlt : k < n
    · obtain ⟨g, rfl, hg1, hg2⟩ := own_form hown (by omega)
      have hlx : k < xs.length := by rw [HL.out]; exact hlt
      have c1 := own_odd hown (k := k) (by rw [Tr.up_length]; exact hlx)
      rw [Tr.up_d hlx, if_neg (by omega)] at c1
      have f1 := hown.frozenAt (k * 2 + 1)
      have hbk := HX.out k hlt
      have a5 : IntKind.i64.wrap (Tr.d xs k + dd) = Tr.d xs k + dd := Kit.w64 (by omega) (by omega)
      clear hown hB hbk hg2
      go_wp2
      go_roundw
      case rel =>
        refine ⟨k + 1, by omega, by go_num, ?_, HB.out.setCell (by exact hg1) _⟩
        have := (Ho.out.stored (k * 2 + 1) (.int .i64 (Tr.d xs k + dd))).1
        rw [Tr.cells_set_odd, Tr.up_l hlx, Tr.up_set _ _ _ hlx] at this
        exact this
      case measure => simp [intOf]; omega
    · obtain rfl : k = n := by omega
      clear hown hB
      go_wp2
      go_ret
      exact ⟨A3, c3, by rw [Tr.up_length, HL.out]; rfl, by rw [Tr.up_length, HL.out]; exact Ho.out, HB.out⟩

end Go.Proofs.Ytgkkeejhfofcaaa
