/- Texts of one claim laid into one file, in build order: Opd, Ops, Opa, ShI, ConI, Bxc, RmI, OsI, CntS, CntI. -/
import Derived.Test.YtgkkeejhfofcaaaHa1
import Derived.Test.YtgkkeejhfofcaaaHa2
import Derived.Test.YtgkkeejhfofcaaaHa5
import Derived.Test.YtgkkeejhfofcaaaHa6
import Derived.Test.YtgkkeejhfofcaaaHa9
import Derived.Deep.RegionHeld3
import Derived.Laws.AppendOwnNone
import Derived.Lib.AppendZerosOnto
import Derived.Lib.SliceRun
import Derived.Lib.Walk
import Derived.Outline
import Derived.Shelf.RegionOpenPlain
import Derived.Test.YtgkkeejhfofcaaaRows
import Derived.WalkKit
/- Contracts (Opd). -/
namespace Go.Proofs.Ytgkkeejhfofcaaa
open Go.RowKit
set_option linter.unusedVariables false


/-! One operation costs at most one. -/
section
variable {xs : Tr} (hok : Tr.ok xs = true) {i : Nat} (hi : i < xs.length)
include hok hi
end
/-- a mapping of m pairs, told by two rising functions -/
def Mp.row (m : Nat) (u v : Nat → Nat) : Tr := (List.range m).map fun k => ((u k : Int), (v k : Int))
section
variable {xs ys : Tr} {m : Nat} {u v : Nat → Nat}
theorem Mp.sum_one {f : Nat → Int} : ∀ n, (∀ k, k < n → f k = 1) → Mp.sum f n = n
  | 0, _ => rfl
  | n + 1, h => by
    unfold Mp.sum
    rw [Mp.sum_one n (fun k hk => h k (by omega)), h n (by omega)]
    omega
end
section
variable {xs : Tr} (hok : Tr.ok xs = true) {i : Nat} (hi : i < xs.length) {a : Int}
include hok hi
end

end Go.Proofs.Ytgkkeejhfofcaaa

/- Contracts (Ops). -/
namespace Go.Proofs.Ytgkkeejhfofcaaa
open Go.RowKit
set_option linter.unusedVariables false


/-! A node that was put in, taken out again; paths. -/
section
variable {xs : Tr} (hok : Tr.ok xs = true) {i f t : Nat} {a : Int} (hi : i < xs.length) (hf : Tr.bound xs i f) (ht : Tr.bound xs i t) (hft : f ≤ t)
include hok hi hf ht hft
end
/-! paths -/
def Tr.walk (xs : Tr) : Nat → List Int → Int
  | i, [] => i
  | i, x :: p => if 0 ≤ x ∧ x < (Tr.kidsTo xs i (Tr.endN xs i)).length then Tr.walk xs ((Tr.kidsTo xs i (Tr.endN xs i)).getD x.toNat 0) p else -1
def Tr.nodeAt (xs : Tr) (p : List Int) : Int := if Tr.ok xs then Tr.walk xs 0 p else -1
section
variable {xs ys : Tr} (hok : Tr.ok xs = true)
include hok
theorem Tr.walk_range : ∀ (p : List Int) (i : Nat), i < xs.length → Tr.walk xs i p = -1 ∨ ∃ r : Nat, Tr.walk xs i p = r ∧ i ≤ r ∧ r < xs.length
  | [], i, hi => .inr ⟨i, rfl, Nat.le_refl _, hi⟩
  | x :: p, i, hi => by
    unfold Tr.walk
    by_cases c : 0 ≤ x ∧ x < (Tr.kidsTo xs i (Tr.endN xs i)).length
    · rw [if_pos c]
      obtain ⟨h1, h2, h3⟩ := Tr.cut_bound hok hi x.toNat (by omega)
      obtain ⟨h4, h5⟩ := h3 (by omega)
      rw [h5]
      have e2 := (Tr.endN_spec xs i hi).2.1
      rcases Tr.walk_range p (Tr.cut xs i x.toNat) (by omega) with h | ⟨r, hr, h6, h7⟩
      · exact .inl h
      · exact .inr ⟨r, hr, by have := h1.1; omega, h7⟩
    · rw [if_neg c]; exact .inl rfl
end
/-- how many nodes from f up to t stand at depth d -/
def Tr.cnt (xs : Tr) (d : Int) (f t : Nat) : Nat := ((List.range (t - f)).filter fun j => decide (Tr.d xs (f + j) = d)).length
section
variable {xs : Tr} (hok : Tr.ok xs = true) {i q c : Nat} {a : Int} (hi : i < xs.length) (hq : q + c ≤ (Tr.kidsTo xs i (Tr.endN xs i)).length) (hoy : Tr.ok (Oc.ins xs i a (Tr.cut xs i q) (Tr.cut xs i (q + c))) = true)
include hok hi hq hoy
end

end Go.Proofs.Ytgkkeejhfofcaaa

/- Contracts (Opa). -/
namespace Go.Proofs.Ytgkkeejhfofcaaa
open Go.RowKit
set_option linter.unusedVariables false


/-! Operations and lists of them, as mathematics. -/
/-- an operation: its kind, path, label, from, count -/
structure Opr where
  k : Int
  p : List Int
  a : Int
  f : Int
  c : Int
/-- the greatest depth that m nodes from place f on, put below i's kid, would have -/
def Oc.deep (xs : Tr) (i f : Nat) : Nat → Int
  | 0 => Tr.d xs i + 1
  | m + 1 => max (Oc.deep xs i f m) (Tr.d xs (f + m) + 1)
theorem Oc.deep_le {xs : Tr} {i f : Nat} {z : Int} : ∀ m, Oc.deep xs i f m ≤ z ↔ Tr.d xs i + 1 ≤ z ∧ ∀ k, f ≤ k → k < f + m → Tr.d xs k + 1 ≤ z
  | 0 => ⟨fun h => ⟨h, fun k h1 h2 => by omega⟩, fun h => h.1⟩
  | m + 1 => by
    have ih := Oc.deep_le (xs := xs) (i := i) (f := f) (z := z) m
    constructor
    · intro h
      have h' : max (Oc.deep xs i f m) (Tr.d xs (f + m) + 1) ≤ z := h
      obtain ⟨a, b⟩ := ih.1 (by omega)
      refine ⟨a, fun k h1 h2 => ?_⟩
      rcases Nat.lt_or_ge k (f + m) with c | c
      · exact b k h1 c
      · obtain rfl : k = f + m := by omega
        omega
    · rintro ⟨a, b⟩
      have h1 := ih.2 ⟨a, fun k h1 h2 => b k h1 (by omega)⟩
      have h2 := b (f + m) (by omega) (by omega)
      show max (Oc.deep xs i f m) (Tr.d xs (f + m) + 1) ≤ z
      omega
/-- what is wrong with an operation for node i (-1: there is none), 0: nothing -/
def Oc.code (xs : Tr) (o : Opr) (i : Int) : Int :=
  if ¬ (1 ≤ o.k ∧ o.k ≤ 3) then 1
  else if i < 0 then 2
  else if o.k ≠ 2 ∧ Lab.ok o.a = false then 3
  else if o.k = 2 ∧ i = 0 then 4
  else if o.k ≠ 3 then 0
  else if ¬ (0 ≤ o.f ∧ o.f ≤ (Tr.kidsTo xs i.toNat (Tr.endN xs i.toNat)).length ∧ 0 ≤ o.c ∧ o.c ≤ (Tr.kidsTo xs i.toNat (Tr.endN xs i.toNat)).length - o.f) then 5
  else if xs.length = 24 then 6
  else if 12 < Oc.deep xs i.toNat (Tr.cut xs i.toNat o.f.toNat) (Tr.cut xs i.toNat (o.f.toNat + o.c.toNat) - Tr.cut xs i.toNat o.f.toNat) then 7
  else 0
/-- the new list of an operation with which nothing is wrong -/
def Oc.new (xs : Tr) (o : Opr) (i : Nat) : Tr :=
  if o.k = 1 then Oc.rel xs i o.a else if o.k = 2 then Oc.del xs i else Oc.ins xs i o.a (Tr.cut xs i o.f.toNat) (Tr.cut xs i (o.f.toNat + o.c.toNat))
def Oc.apply (xs : Tr) (o : Opr) : Tr × Int :=
  if Tr.ok xs then
    if Oc.code xs o (Tr.nodeAt xs o.p) = 0 then (Oc.new xs o (Tr.nodeAt xs o.p).toNat, 0) else (xs, Oc.code xs o (Tr.nodeAt xs o.p))
  else ([], 2)
section
variable {xs : Tr} {o : Opr}
/-- nothing is wrong: which node, and what that says of each kind -/
theorem Oc.right (h : Tr.ok xs = true) (hc : Oc.code xs o (Tr.nodeAt xs o.p) = 0) : ∃ i : Nat, i < xs.length ∧ Tr.nodeAt xs o.p = i ∧
    ((o.k = 1 ∧ 0 ≤ o.a ∧ o.a ≤ 5) ∨ (o.k = 2 ∧ 0 < i) ∨
     (o.k = 3 ∧ (0 ≤ o.a ∧ o.a ≤ 5) ∧ 0 ≤ o.f ∧ 0 ≤ o.c ∧ o.f.toNat + o.c.toNat ≤ (Tr.kidsTo xs i (Tr.endN xs i)).length ∧ xs.length ≠ 24 ∧ Tr.d xs i + 1 ≤ 12 ∧ ∀ k, Tr.cut xs i o.f.toNat ≤ k → k < Tr.cut xs i (o.f.toNat + o.c.toNat) → Tr.d xs k + 1 ≤ 12)) := by
  have n := Tr.len24 h
  have r : Tr.nodeAt xs o.p = -1 ∨ ∃ i : Nat, Tr.nodeAt xs o.p = i ∧ i < xs.length := by
    unfold Tr.nodeAt
    rw [if_pos h]
    rcases Tr.walk_range h o.p 0 (by omega) with e | ⟨r, e, _, hr⟩
    · exact .inl e
    · exact .inr ⟨r, e, hr⟩
  unfold Oc.code at hc
  by_cases c1 : ¬ (1 ≤ o.k ∧ o.k ≤ 3)
  · rw [if_pos c1] at hc; omega
  rw [if_neg c1] at hc
  by_cases c2 : Tr.nodeAt xs o.p < 0
  · rw [if_pos c2] at hc; omega
  rw [if_neg c2] at hc
  obtain ⟨i, hi, hin⟩ := r.resolve_left (by omega)
  rw [hi] at hc c2
  rw [show ((i : Int)).toNat = i by omega] at hc
  refine ⟨i, hin, hi, ?_⟩
  by_cases c3 : o.k ≠ 2 ∧ Lab.ok o.a = false
  · rw [if_pos c3] at hc; omega
  rw [if_neg c3] at hc
  by_cases c4 : o.k = 2 ∧ (i : Int) = 0
  · rw [if_pos c4] at hc; omega
  rw [if_neg c4] at hc
  have lab : o.k ≠ 2 → 0 ≤ o.a ∧ o.a ≤ 5 := fun e => by
    cases hl : Lab.ok o.a with
    | false => exact absurd ⟨e, hl⟩ c3
    | true => simpa [Lab.ok] using hl
  by_cases c5 : o.k ≠ 3
  · by_cases c6 : o.k = 2
    · exact .inr (.inl ⟨c6, by omega⟩)
    · exact .inl ⟨by omega, lab c6⟩
  rw [if_neg c5] at hc
  by_cases c7 : ¬ (0 ≤ o.f ∧ o.f ≤ (Tr.kidsTo xs i (Tr.endN xs i)).length ∧ 0 ≤ o.c ∧ o.c ≤ (Tr.kidsTo xs i (Tr.endN xs i)).length - o.f)
  · rw [if_pos c7] at hc; omega
  rw [if_neg c7] at hc
  by_cases c8 : xs.length = 24
  · rw [if_pos c8] at hc; omega
  rw [if_neg c8] at hc
  have hq : o.f.toNat + o.c.toNat ≤ (Tr.kidsTo xs i (Tr.endN xs i)).length := by omega
  have mono := Tr.cut_mono h hin (q := o.f.toNat) (r := o.f.toNat + o.c.toNat) (by omega) hq
  by_cases c9 : 12 < Oc.deep xs i (Tr.cut xs i o.f.toNat) (Tr.cut xs i (o.f.toNat + o.c.toNat) - Tr.cut xs i o.f.toNat)
  · rw [if_pos c9] at hc; omega
  obtain ⟨d1, d2⟩ := (Oc.deep_le _).1 (show Oc.deep xs i (Tr.cut xs i o.f.toNat) (Tr.cut xs i (o.f.toNat + o.c.toNat) - Tr.cut xs i o.f.toNat) ≤ 12 by omega)
  exact .inr (.inr ⟨by omega, lab (by omega), by omega, by omega, hq, c8, d1, fun k h1 h2 => d2 k h1 (by omega)⟩)
end
/-! several, one behind the other -/
def Oc.all : Tr → List Opr → Tr × Nat × Int
  | xs, [] => (xs, 0, 0)
  | xs, o :: os => if (Oc.apply xs o).2 = 0 then ((Oc.all (Oc.apply xs o).1 os).1, (Oc.all (Oc.apply xs o).1 os).2.1 + 1, (Oc.all (Oc.apply xs o).1 os).2.2) else (xs, 0, (Oc.apply xs o).2)
end Go.Proofs.Ytgkkeejhfofcaaa

/- Contracts (ShI). -/
namespace Go.Proofs.Ytgkkeejhfofcaaa
open Go.RowKit
set_option linter.unusedVariables false

/-- a cut of a slice of nodes -/
theorem NdIn.cut {w : World} {B n : Nat} {ad : Addr} {xs : Tr} (h : NdIn w B (some ad) n xs) {j m : Nat} (hjm : j + m ≤ n) : NdIn w B (some (ad.add (j * 2))) m ((xs.drop j).take m) := by
  refine ⟨by have := h.1; simp; omega, fun hm => ⟨_, rfl, ?_⟩, fun ad' e k hk => ?_⟩
  · rw [block_of_add]
    obtain ⟨ad', e, hb⟩ := h.2.1 (by omega)
    obtain rfl : ad = ad' := by injection e
    exact hb
  · obtain rfl : ad.add (j * 2) = ad' := by injection e
    have hc := h.2.2 ad rfl (j + k) (by omega)
    have hg : ((xs.drop j).take m).getD k (0, 0) = xs.getD (j + k) (0, 0) := by
      simp [List.getD_eq_getElem?_getD, hk]
    rw [add_of_add, add_of_add, show j * 2 + k * 2 = (j + k) * 2 by omega, show j * 2 + (k * 2 + 1) = (j + k) * 2 + 1 by omega]
    simp only [Tr.l, Tr.d] at hc ⊢
    rw [hg]
    exact hc
/-- the first k nodes that many levels deeper -/
def Tr.up (xs : Tr) (dd : Int) (k : Nat) : Tr := (List.range xs.length).map fun t => (Tr.l xs t, if t < k then Tr.d xs t + dd else Tr.d xs t)
end Go.Proofs.Ytgkkeejhfofcaaa

/- Contracts (ConI). -/
namespace Go.Proofs.Ytgkkeejhfofcaaa
open Go.RowKit
set_option linter.unusedVariables false

/-- the i-th of some slices of nodes that stand in a row reads as the i-th list -/
def SlsIn (w : World) (b m : Nat) (vs : List Value) (xss : List Tr) : Prop :=
  xss.length = m ∧ ∀ i, i < m → w.cell? ⟨b, i, none⟩ = some (vs.getD i undef) ∧ ∃ A c, vs.getD i undef = .slice A (xss.getD i []).length c ∧ NdIn w w.heap.size A (xss.getD i []).length (xss.getD i []) ∧ (A = none → (xss.getD i []).length = 0 ∧ c = 0)
theorem SlsIn.to_below {w w' : World} {b m : Nat} {vs : List Value} {xss : List Tr} (h : SlsIn w b m vs xss) (hb : Below w.heap.size w w') : SlsIn w' b m vs xss := by
  refine ⟨h.1, fun i hi => ?_⟩
  obtain ⟨c1, A, c, e, hn, h0⟩ := h.2 i hi
  exact ⟨(hb.cell (World.block_lt_of_cell? _ _ c1)).trans c1, A, c, e, hn.to_below hb, h0⟩
end Go.Proofs.Ytgkkeejhfofcaaa

/- Contracts (Bxc). -/
namespace Go.Proofs.Ytgkkeejhfofcaaa
open Go.RowKit
set_option linter.unusedVariables false

/-- below a world's blocks nothing has turned -/
def BelA (w wq : World) : Prop := Below w.heap.size w wq
section
variable {wa wx wy : World} {b : Nat} {v0 v1 v2 : Value}
end

end Go.Proofs.Ytgkkeejhfofcaaa

/- Contracts (RmI). -/
namespace Go.Proofs.Ytgkkeejhfofcaaa
open Go.RowKit
set_option linter.unusedVariables false

theorem NdIn.none {w : World} {B : Nat} {A : Option Addr} : NdIn w B A 0 [] := ⟨rfl, fun h => absurd h (Nat.lt_irrefl 0), fun ad _ k hk => absurd hk (Nat.not_lt_zero k)⟩
end Go.Proofs.Ytgkkeejhfofcaaa

/- Contracts (OsI). -/
namespace Go.Proofs.Ytgkkeejhfofcaaa
open Go.RowKit
set_option linter.unusedVariables false

def Opr.z : Opr := ⟨0, [], 0, 0, 0⟩
/-- the slice (A, n) reads as the operations os, in blocks below B -/
def OpsIn (w : World) (B : Nat) (A : Option Addr) (n : Nat) (os : List Opr) : Prop :=
  os.length = n ∧ (0 < n → ∃ ad, A = some ad ∧ ad.block < B) ∧
  ∀ ad, A = some ad → ∀ i, i < n → ∃ P q, (w.cell? (ad.add (i * 5)) = some (.int .i64 (os.getD i Opr.z).k) ∧ w.cell? (ad.add (i * 5 + 1)) = some (.slice P (os.getD i Opr.z).p.length q) ∧ w.cell? (ad.add (i * 5 + 2)) = some (.int .i64 (os.getD i Opr.z).a) ∧ w.cell? (ad.add (i * 5 + 3)) = some (.int .i64 (os.getD i Opr.z).f) ∧ w.cell? (ad.add (i * 5 + 4)) = some (.int .i64 (os.getD i Opr.z).c)) ∧
    IntIn w B P (os.getD i Opr.z).p.length (os.getD i Opr.z).p
section
variable {w w' : World} {B n : Nat} {A : Option Addr} {os : List Opr}
theorem OpsIn.to_below (h : OpsIn w w.heap.size A n os) (hb : Below w.heap.size w w') : OpsIn w' w'.heap.size A n os := by
  refine ⟨h.1, fun hn => ?_, fun ad e i hi => ?_⟩
  · obtain ⟨ad, e, hl⟩ := h.2.1 hn
    exact ⟨ad, e, Nat.lt_of_lt_of_le hl hb.size⟩
  · obtain ⟨ad', e', hl⟩ := h.2.1 (by omega)
    obtain rfl : ad' = ad := by rw [e'] at e; injection e
    obtain ⟨P, q, ⟨c0, c1, c2, c3, c4⟩, hI⟩ := h.2.2 _ e i hi
    have kc : ∀ j, w'.cell? (ad'.add j) = w.cell? (ad'.add j) := fun j => hb.cell (by rw [block_of_add]; exact hl)
    exact ⟨P, q, ⟨by rw [kc]; exact c0, by rw [kc]; exact c1, by rw [kc]; exact c2, by rw [kc]; exact c3, by rw [kc]; exact c4⟩, hI.to_below hb⟩
theorem OpsIn.at_ (h : OpsIn w B A n os) {i : Nat} (hi : i < n) : ∃ ad P q, A = some ad ∧ w.cell? (ad.add (i * 5)) = some (.int .i64 (os.getD i Opr.z).k) ∧ w.cell? ⟨(ad.add (i * 5)).block, (ad.add (i * 5)).off + 1, none⟩ = some (.slice P (os.getD i Opr.z).p.length q) ∧ w.cell? ⟨(ad.add (i * 5)).block, (ad.add (i * 5)).off + 2, none⟩ = some (.int .i64 (os.getD i Opr.z).a) ∧ w.cell? ⟨(ad.add (i * 5)).block, (ad.add (i * 5)).off + 3, none⟩ = some (.int .i64 (os.getD i Opr.z).f) ∧ w.cell? ⟨(ad.add (i * 5)).block, (ad.add (i * 5)).off + 4, none⟩ = some (.int .i64 (os.getD i Opr.z).c) ∧ IntIn w B P (os.getD i Opr.z).p.length (os.getD i Opr.z).p := by
  obtain ⟨ad, rfl, _⟩ := h.2.1 (by omega)
  obtain ⟨P, q, ⟨c0, c1, c2, c3, c4⟩, hI⟩ := h.2.2 ad rfl i hi
  rw [add_fld ad (i * 5) 1 (by omega)] at c1
  rw [add_fld ad (i * 5) 2 (by omega)] at c2
  rw [add_fld ad (i * 5) 3 (by omega)] at c3
  rw [add_fld ad (i * 5) 4 (by omega)] at c4
  exact ⟨ad, P, q, rfl, c0, c1, c2, c3, c4, hI⟩
end
end Go.Proofs.Ytgkkeejhfofcaaa

/- Contracts (CntS). -/
namespace Go.Proofs.Ytgkkeejhfofcaaa
open Go.RowKit
set_option linter.unusedVariables false


/-- how many of the first k operations are of this kind -/
def Os.cnt (os : List Opr) (kd : Int) : Nat → Nat
  | 0 => 0
  | k + 1 => Os.cnt os kd k + if (os.getD k Opr.z).k = kd then 1 else 0
theorem Os.cnt_le (os : List Opr) (kd : Int) : ∀ k, Os.cnt os kd k ≤ k
  | 0 => Nat.le_refl _
  | k + 1 => by
    have := Os.cnt_le os kd k
    unfold Os.cnt
    split <;> omega
set_option maxHeartbeats 1600000 in
set_option maxRecDepth 100000 in
theorem specCountOps_any (A : Option Addr) (n c : Nat) (os : List Opr) (kd : Int) (w : World) (h : OpsIn w w.heap.size A n os) (hn : n ≤ 1048576) :
    Calls Try.prog 42 #[.slice A n c, .int .i64 kd] w fun e w' => e = .returned (.int .i64 (Os.cnt os kd n)) ∧ Below w.heap.size w w' := by
  have H := Lib.hid h
  clear h
  go_enter Try.func42, Try.ntmps42
  go_wp2
  go_loopw [5, 6] (fun cv iv wr => ∃ i : Nat, i ≤ n ∧ iv = .int .i64 i ∧ cv = .int .i64 (Os.cnt os kd i) ∧ Below w.heap.size w wr) (fun _ i _ => n - (intOf i).toNat)
  case atStart => exact ⟨0, by omega, by go_num, by simp [Os.cnt], Below.refl _ _⟩
  case round =>
    obtain ⟨i, hi, rfl, rfl, hB⟩ := hrel
    have HB := Lib.hid hB
    have HO := Lib.hid (H.out.to_below hB)
    clear hB
    by_cases hlt : i < n
    · obtain ⟨ad, P, pq, rfl, y0, y1, y2, y3, y4, hI⟩ := HO.out.at_ hlt
      have hle := Os.cnt_le os kd i
      have HC := Lib.hid (show Os.cnt os kd (i + 1) = Os.cnt os kd i + if (os.getD i Opr.z).k = kd then 1 else 0 from rfl)
      obtain ⟨o, ho⟩ : ∃ o, o = os.getD i Opr.z := ⟨_, rfl⟩
      rw [← ho] at y0 y1 y2 y3 y4 hI HC
      clear ho hI
      have b0 : (0 : Int) ≤ (i : Int) := by omega
      have b1 : (i : Int) < (n : Int) := by omega
      have a1 : IntKind.i64.wrap ((Os.cnt os kd i : Int) + 1) = (Os.cnt os kd i : Int) + 1 := Kit.w64 (by omega) (by omega)

      by_cases hk : o.k = kd
      · have e0 : (o.k == kd) = true := by simp [hk]
        have HC2 := Lib.hid (show Os.cnt os kd (i + 1) = Os.cnt os kd i + 1 by rw [HC.out, if_pos hk])
        clear hk
        go_wp2
        go_roundw
        case rel => exact ⟨i + 1, by omega, by go_num, by rw [HC2.out]; go_num, HB.out⟩
        case measure => simp [intOf]; omega
      · have e0 : (o.k == kd) = false := by simp [hk]
        have HC2 := Lib.hid (show Os.cnt os kd (i + 1) = Os.cnt os kd i by rw [HC.out, if_neg hk]; rfl)
        clear hk
        go_wp2
        go_roundw
        case rel => exact ⟨i + 1, by omega, by go_num, by rw [HC2.out], HB.out⟩
        case measure => simp [intOf]; omega
    · obtain rfl : i = n := by omega
      go_wp2
      go_ret
      exact ⟨rfl, HB.out⟩

end Go.Proofs.Ytgkkeejhfofcaaa

/- Contracts (CntI). -/
namespace Go.Proofs.Ytgkkeejhfofcaaa
open Go.RowKit
set_option linter.unusedVariables false

set_option maxHeartbeats 1600000 in
set_option maxRecDepth 100000 in
theorem implCountOps_any (A : Option Addr) (n c : Nat) (os : List Opr) (kd : Int) (w : World) (h : OpsIn w w.heap.size A n os) (hn : n ≤ 1048576) :
    Calls Try.prog 44 #[.slice A n c, .int .i64 kd] w fun e w' => e = .returned (.int .i64 (Os.cnt os kd n)) ∧ Below w.heap.size w w' := by
  have H := Lib.hid h
  clear h
  go_enter Try.func44, Try.ntmps44
  go_wp2
  go_loopw [5, 10] (fun cv iv wr => ∃ i : Nat, i ≤ n ∧ iv = .int .i64 i ∧ cv = .int .i64 (Os.cnt os kd i) ∧ Below w.heap.size w wr) (fun _ i _ => n - (intOf i).toNat)
  case atStart => exact ⟨0, by omega, by go_num, by simp [Os.cnt], Below.refl _ _⟩
  case round =>
    obtain ⟨i, hi, rfl, rfl, hB⟩ := hrel
    have HB := Lib.hid hB
    have HO := Lib.hid (H.out.to_below hB)
    clear hB
    by_cases hlt : i < n
    · obtain ⟨ad, P, pq, rfl, y0, y1, y2, y3, y4, hI⟩ := HO.out.at_ hlt
      have hle := Os.cnt_le os kd i
      have HC := Lib.hid (show Os.cnt os kd (i + 1) = Os.cnt os kd i + if (os.getD i Opr.z).k = kd then 1 else 0 from rfl)
      obtain ⟨o, ho⟩ : ∃ o, o = os.getD i Opr.z := ⟨_, rfl⟩
      rw [← ho] at y0 y1 y2 y3 y4 hI HC
      clear ho hI
      have b0 : (0 : Int) ≤ (i : Int) := by omega
      have b1 : (i : Int) < (n : Int) := by omega
      have a1 : IntKind.i64.wrap ((Os.cnt os kd i : Int) + 1) = (Os.cnt os kd i : Int) + 1 := Kit.w64 (by omega) (by omega)
      obtain ⟨wz, hwz⟩ : ∃ wz, wz = wr.alloc (.cells #[.int .i64 o.k, .slice P o.p.length pq, .int .i64 o.a, .int .i64 o.f, .int .i64 o.c] 39) := ⟨_, rfl⟩
      have HB2 := Lib.hid (show Below w.heap.size w wz by rw [hwz]; exact HB.out.alloc HB.out.size _)
      have HZ := Lib.hid hwz
      clear hwz
      by_cases hk : o.k = kd
      · have e0 : (o.k == kd) = true := by simp [hk]
        have HC2 := Lib.hid (show Os.cnt os kd (i + 1) = Os.cnt os kd i + 1 by rw [HC.out, if_pos hk])
        clear hk
        go_wp2
        go_roundw
        case rel => exact ⟨i + 1, by omega, by go_num, by rw [HC2.out]; go_num, (by rw [← HZ.out]; exact HB2.out)⟩
        case measure => simp [intOf]; omega
      · have e0 : (o.k == kd) = false := by simp [hk]
        have HC2 := Lib.hid (show Os.cnt os kd (i + 1) = Os.cnt os kd i by rw [HC.out, if_neg hk]; rfl)
        clear hk
        go_wp2
        go_roundw
        case rel => exact ⟨i + 1, by omega, by go_num, by rw [HC2.out], (by rw [← HZ.out]; exact HB2.out)⟩
        case measure => simp [intOf]; omega
    · obtain rfl : i = n := by omega
      go_wp2
      go_ret
      exact ⟨rfl, HB.out⟩

end Go.Proofs.Ytgkkeejhfofcaaa
