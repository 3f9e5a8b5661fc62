/- What the model draws for chapter 1's law on numbers. -/
import Derived.Test.YtbdhhmcebjpgeaaDoorDraw4
import Derived.Test.YtbdhhmcebjpgeaaDoorVarS
namespace Go.Proofs.YtbdhhmcebjpgeaaDoor
open Go.RowKit
set_option linter.unusedVariables false

theorem CodeIn.on {w w' : World} {B : Nat} {a : Option Addr} {cs : List Int} (h : CodeIn w B a cs) (hb : Below B w w') (hB : B ≤ w'.heap.size) : CodeIn w' w'.heap.size a cs := by
  intro j hj
  obtain ⟨b, off, h1, h2, h3, h4⟩ := h j hj
  exact ⟨b, off, h1, by omega, (hb.cell (p := ⟨b, off + j, none⟩) h2).trans h3, h4⟩
/-- behind a new cursor and what is drawn from it -/
theorem Kit.below_draw {w w1 w2 : World} (h1 : w.grownBy w1 none) (h2 : w1.grownBy w2 (some w.heap.size)) : Below w.heap.size w w2 :=
  (Kit.below_of_grown h1 (fun _ h => by cases h) (Nat.le_refl _)).trans (Kit.below_of_grown h2 (fun k hk => by injection hk with hk; omega) h1.size)

set_option maxHeartbeats 400000 in
theorem drawVar_any (w : World) (k : Code) (hcode : CodeIn w w.heap.size k.a k.cs) (hlen : k.cs.length ≤ 1048576) :
    Calls Tryd.prog 7 #[.slice k.a k.cs.length k.cap] w fun e w' => e = .returned (.int .i64 (Draw.num k.cs (Draw.start k.cs)).1) ∧ Below w.heap.size w w' := by
  have Hcode := Lib.hid hcode
  clear hcode
  go_enter Tryd.func7, Tryd.ntmps7
  go_wp2_with fail
  refine (l1New_any _ k Hcode.out hlen).mono ?_
  rintro e w1 ⟨rfl, c1, g1⟩
  have C1 := Lib.hid c1
  clear c1
  go_wp2_with fail
  refine (l1Num_any _ _ k _ C1.out).mono ?_
  rintro e w2 ⟨rfl, c2, g2⟩
  clear c2
  go_wp2
  go_ret
  exact ⟨rfl, Kit.below_draw g1 g2⟩

set_option maxHeartbeats 400000 in
theorem drawHex_any (w : World) (k : Code) (hcode : CodeIn w w.heap.size k.a k.cs) (hlen : k.cs.length ≤ 1048576) :
    Calls Tryd.prog 8 #[.slice k.a k.cs.length k.cap] w fun e w' => e = .returned (.string ⟨(Draw.text k.cs 40 (Draw.start k.cs)).1.toArray⟩) ∧ Below w.heap.size w w' := by
  have Hcode := Lib.hid hcode
  clear hcode
  go_enter Tryd.func8, Tryd.ntmps8
  go_wp2_with fail
  refine (l1New_any _ k Hcode.out hlen).mono ?_
  rintro e w1 ⟨rfl, c1, g1⟩
  have C1 := Lib.hid c1
  clear c1
  go_wp2_with fail
  refine (l1Text_any _ _ k 40 (by decide) (by decide) _ C1.out).mono ?_
  rintro e w2 ⟨rfl, c2, g2⟩
  clear c2
  go_wp2
  go_ret
  exact ⟨rfl, Kit.below_draw g1 g2⟩

theorem Num.varF_length (f q : Nat) : (Num.varF f q).length ≤ f + 1 := by
  induction f generalizing q with
  | zero => simp [Num.varF]
  | succ f ih =>
    unfold Num.varF
    split
    · simp
    · simp only [List.length_cons]; have := ih (q / 128); omega
theorem Num.varR_length (n : Int) : (Num.varR n).length ≤ 7 := by
  unfold Num.varR; split
  · exact Num.varF_length _ _
  · simp

/-- a varint with something behind it, sometimes spoilt -/
def Draw.readVar (cs : List Int) : ByteArray :=
  let a := Draw.num cs (Draw.start cs)
  let b := Draw.text cs 4 a.2
  let t : ByteArray := ⟨(Num.varR a.1).toArray⟩ ++ ⟨b.1.toArray⟩
  if (Draw.below cs 4 b.2).1 = 0 then (Draw.spoil cs t (Draw.below cs 4 b.2).2).1 else t
theorem Draw.readVar_size (cs : List Int) : (Draw.readVar cs).size ≤ 1005 := by
  have h1 := Num.varR_length (Draw.num cs (Draw.start cs)).1
  have h2 := Draw.text_length cs 4 (Draw.num cs (Draw.start cs)).2 (by omega)
  have h3 : ((⟨(Num.varR (Draw.num cs (Draw.start cs)).1).toArray⟩ : ByteArray) ++ ⟨(Draw.text cs 4 (Draw.num cs (Draw.start cs)).2).1.toArray⟩).size ≤ 11 := by
    simp only [ByteArray.size_append, ByteArray.size_mk', List.size_toArray]; omega
  unfold Draw.readVar
  simp only
  split
  · exact Draw.spoil_size _ _ _ (by omega)
  · omega

set_option maxHeartbeats 1000000 in
theorem drawReadVar_any (w : World) (k : Code) (hcode : CodeIn w w.heap.size k.a k.cs) (hlen : k.cs.length ≤ 1048576) :
    Calls Tryd.prog 17 #[.slice k.a k.cs.length k.cap] w fun e w' => e = .returned (.string (Draw.readVar k.cs)) ∧ Below w.heap.size w w' := by
  have Hcode := Lib.hid hcode
  clear hcode
  obtain ⟨A, hA⟩ : ∃ A, A = Draw.num k.cs (Draw.start k.cs) := ⟨_, rfl⟩
  obtain ⟨T, hT⟩ : ∃ T, T = Draw.text k.cs 4 A.2 := ⟨_, rfl⟩
  obtain ⟨U, hU⟩ : ∃ U, U = Draw.below k.cs 4 T.2 := ⟨_, rfl⟩
  have hres := Lib.hid (show Draw.readVar k.cs = (if U.1 = 0 then (Draw.spoil k.cs ((⟨(Num.varR A.1).toArray⟩ : ByteArray) ++ ⟨T.1.toArray⟩) U.2).1 else (⟨(Num.varR A.1).toArray⟩ : ByteArray) ++ ⟨T.1.toArray⟩) by
    rw [hU, hT, hA]; rfl)
  have hv := Num.varR_length A.1
  have ht := Draw.text_length k.cs 4 A.2 (by omega)
  rw [← hT] at ht
  have HA := Lib.hid hA
  have HT := Lib.hid hT
  have HU := Lib.hid hU
  have hsum : ¬ 9223372036854775807 < (Num.varR A.1).length + T.1.length := by omega
  clear hA hT hU
  cases h0 : (U.1 == 0) with
  | true =>
    have Hr := Lib.hid (hres.out.trans (if_pos (by simpa using h0)))
    go_enter Tryd.func17, Tryd.ntmps17
    go_wp2_with fail
    refine (l1New_any _ k Hcode.out hlen).mono ?_
    rintro e w1 ⟨rfl, c1, g1⟩
    have C1 := Lib.hid c1
    have hlt := c1.lt
    clear c1
    go_wp2_with fail
    refine (l1Num_any _ _ k _ C1.out).mono ?_
    rintro e w2 ⟨rfl, c2, g2⟩
    rw [← HA.out] at c2 ⊢
    have C2 := Lib.hid c2
    clear c2
    go_wp2_with fail
    refine (specVar_any A.1 _).mono ?_
    rintro e w3 ⟨rfl, hb3⟩
    have g3 : w2.grownBy w3 none := ⟨hb3.os, hb3.tape, hb3.output, hb3.size, fun k hk _ => hb3.block k hk⟩
    have C3 := Lib.hid (C2.out.kept g3 (fun _ h => by cases h))
    go_wp2_with fail
    refine (l1Text_any _ _ k 4 (by decide) (by decide) _ C3.out).mono ?_
    rintro e w4 ⟨rfl, c4, g4⟩
    rw [← HT.out] at c4 ⊢
    have C4 := Lib.hid c4
    clear c4
    go_wp2_with fail
    refine (l1Once_any _ _ k 4 _ C4.out).mono ?_
    rintro e w5 ⟨rfl, c5, g5⟩
    rw [← HU.out] at c5 ⊢
    have C5 := Lib.hid c5
    clear c5
    have gall := Kit.grown_trans g2 (Kit.grown_trans (Kit.grown_none g3) (Kit.grown_trans g4 g5))
    go_wp2_with fail
    refine (l1Spoil_any _ _ k _ (by simp only [ByteArray.size_append, ByteArray.size_mk', List.size_toArray]; omega) _ C5.out).mono ?_
    rintro e w6 ⟨rfl, c6, g6⟩
    clear c6
    go_wp2
    go_ret
    exact ⟨by rw [Hr.out]; rfl, Kit.below_draw g1 (Kit.grown_trans gall g6)⟩
  | false =>
    have Hr := Lib.hid (hres.out.trans (if_neg (by simpa using h0)))
    go_enter Tryd.func17, Tryd.ntmps17
    go_wp2_with fail
    refine (l1New_any _ k Hcode.out hlen).mono ?_
    rintro e w1 ⟨rfl, c1, g1⟩
    have C1 := Lib.hid c1
    have hlt := c1.lt
    clear c1
    go_wp2_with fail
    refine (l1Num_any _ _ k _ C1.out).mono ?_
    rintro e w2 ⟨rfl, c2, g2⟩
    rw [← HA.out] at c2 ⊢
    have C2 := Lib.hid c2
    clear c2
    go_wp2_with fail
    refine (specVar_any A.1 _).mono ?_
    rintro e w3 ⟨rfl, hb3⟩
    have g3 : w2.grownBy w3 none := ⟨hb3.os, hb3.tape, hb3.output, hb3.size, fun k hk _ => hb3.block k hk⟩
    have C3 := Lib.hid (C2.out.kept g3 (fun _ h => by cases h))
    go_wp2_with fail
    refine (l1Text_any _ _ k 4 (by decide) (by decide) _ C3.out).mono ?_
    rintro e w4 ⟨rfl, c4, g4⟩
    rw [← HT.out] at c4 ⊢
    have C4 := Lib.hid c4
    clear c4
    go_wp2_with fail
    refine (l1Once_any _ _ k 4 _ C4.out).mono ?_
    rintro e w5 ⟨rfl, c5, g5⟩
    rw [← HU.out] at c5 ⊢
    have C5 := Lib.hid c5
    clear c5
    have gall := Kit.grown_trans g2 (Kit.grown_trans (Kit.grown_none g3) (Kit.grown_trans g4 g5))
    go_wp2
    go_ret
    exact ⟨by rw [Hr.out]; rfl, Kit.below_draw g1 gall⟩
end Go.Proofs.YtbdhhmcebjpgeaaDoor
