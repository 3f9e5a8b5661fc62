/- The law FnNumbers. -/
import Derived.Test.YtbdhhmcebjpgeaaDoorNumbersP
import Derived.Test.YtbdhhmcebjpgeaaDoorC1Draw
import Derived.Test.YtbdhhmcebjpgeaaDoorReadVarI
import Derived.Test.YtbdhhmcebjpgeaaDoorFixedI
import Derived.Test.YtbdhhmcebjpgeaaDoorReadFixedI
import Derived.Test.YtbdhhmcebjpgeaaDoorHexI
import Derived.Test.YtbdhhmcebjpgeaaDoorUnhexI
import Derived.Test.YtbdhhmcebjpgeaaDoorReadDec
namespace Go.Proofs.YtbdhhmcebjpgeaaDoor
open Go.RowKit
set_option linter.unusedVariables false

set_option maxHeartbeats 400000 in
theorem big_small (a : Option Addr) (n cap : Nat) (h : (n : Int) ≤ 1048576) (w : World) :
    Calls Tryd.prog 6 #[.slice a n cap] w fun e w' => e = .returned (.bool false) ∧ w = w' := by
  go_enter Tryd.func6, Tryd.ntmps6
  go_wp2
  go_ret
  exact ⟨Kit.ret_bool (by simp; try omega), rfl⟩
set_option maxHeartbeats 400000 in
theorem big_big (a : Option Addr) (n cap : Nat) (h : (1048576 : Int) < n) (w : World) :
    Calls Tryd.prog 6 #[.slice a n cap] w fun e w' => e = .returned (.bool true) ∧ w = w' := by
  go_enter Tryd.func6, Tryd.ntmps6
  go_wp2
  go_ret
  exact ⟨Kit.ret_bool (by simp; try omega), rfl⟩

set_option maxHeartbeats 2000000 in
set_option maxRecDepth 100000 in
theorem numbers_1 (k : Code) (w : World) (hcode : CodeIn w w.heap.size k.a k.cs) (hlen : k.cs.length ≤ 1048576) (n : Int) (hn : n = (Draw.num k.cs (Draw.start k.cs)).1) (hr : n ≤ -1000000000) (ht : HasPow w) (he : HasErrs w) :
    Calls Tryd.prog 3 #[.slice k.a k.cs.length k.cap] w fun e w' => e = .returned (.bool true) ∧ Below w.heap.size w w' := by
  obtain ⟨n0, n1⟩ := Draw.num_bd k.cs (Draw.start k.cs)
  rw [← hn] at n0 n1
  obtain ⟨T, hT⟩ : ∃ T, T = (Draw.text k.cs 40 (Draw.start k.cs)).1 := ⟨_, rfl⟩
  have hTl := Draw.text_length k.cs 40 (Draw.start k.cs) (by omega)
  rw [← hT] at hTl
  obtain ⟨V, hV⟩ : ∃ V, V = Draw.readVar k.cs := ⟨_, rfl⟩
  have hVs := Draw.readVar_size k.cs
  rw [← hV] at hVs
  have hHl := Num.hexL_length T
  have v1 := Num.var_no (n := n) (by omega)
  have f1 := Num.fix_no (n := n) (by omega) n1
  have hd := Num.rdec_itoa_no (n := n) (by omega)
  have Hn := Lib.hid hn
  have HT := Lib.hid hT
  have HV := Lib.hid hV
  have V1 := Lib.hid v1
  have F1 := Lib.hid f1
  have Hd := Lib.hid hd
  have HHl := Lib.hid hHl
  have Hcode := Lib.hid hcode
  clear hn hT hV v1 f1 hd hHl hcode
  go_enter Tryd.func3, Tryd.ntmps3
  go_wp2_with fail
  refine (big_small _ _ _ (by omega) _).mono ?_
  rintro e w0 ⟨rfl, rfl⟩
  go_wp2_with fail
  refine (drawVar_any _ k Hcode.out hlen).mono ?_
  rintro e w1 ⟨rfl, hb1⟩
  rw [← Hn.out]
  have c1 := Lib.hid (Hcode.out.on hb1 hb1.size)
  go_wp2_with fail
  refine (drawHex_any _ k c1.out hlen).mono ?_
  rintro e w2 ⟨rfl, hb2⟩
  rw [← HT.out]
  have hB2 := hb1.trans (hb2.mono hb1.size)
  go_wp2_with fail
  refine (implVar_any n _).mono ?_
  rintro e w3 ⟨rfl, hb3⟩
  rw [V1.out]
  have hB3 := hB2.trans (hb3.mono hB2.size)
  go_wp2_with fail
  refine (implReadVar_any _ (by unfold maxLen; simp only [ByteArray.size_append, ByteArray.size_mk', List.size_toArray, List.length_nil]; omega) _).mono ?_
  rintro e w4 ⟨rfl, hb4⟩
  have hB4 := hB3.trans (hb4.mono hB3.size)
  go_wp2_with fail
  refine (implFixed_any n 7 n1 _).mono ?_
  rintro e w5 ⟨rfl, hb5⟩
  rw [F1.out]
  have hB5 := hB4.trans (hb5.mono hB4.size)
  go_wp2_with fail
  refine (implReadFixed_any _ 7 (by unfold maxLen; simp only [ByteArray.size_append, ByteArray.size_mk', List.size_toArray, List.length_nil]; omega) _).mono ?_
  rintro e w6 ⟨rfl, rfl⟩
  have ht5 := ht.below hB5
  go_wp2_with fail
  refine (implDec_any n n0 n1 _ ht5).mono ?_
  rintro e w7 ⟨rfl, hb7⟩
  have hB7 := hB5.trans (hb7.mono hB5.size)
  have ht7 := ht.below hB7
  have he7 := he.below hB7
  go_wp2_with fail
  refine (implReadDec_any _ (by have := Lib.itoa_length_le n n0 n1; simp only [ByteArray.size_mk', List.size_toArray]; omega) _ ht7 he7).mono ?_
  rintro e w8 ⟨rfl, hb8⟩
  have hB8 := hB7.trans (hb8.mono hB7.size)
  rw [(Num.rd_none (s := ⟨(Lib.itoa n).toArray⟩) Hd.out).1, (Num.rd_none (s := ⟨(Lib.itoa n).toArray⟩) Hd.out).2]
  go_wp2_with fail
  refine (implHex_any _ (by simp only [ByteArray.size_mk', List.size_toArray]; omega) _).mono ?_
  rintro e w9 ⟨rfl, hb9⟩
  have hB9 := hB8.trans (hb9.mono hB8.size)
  go_wp2_with fail
  refine (implUnhex_any _ (by simp only [ByteArray.size_mk', List.size_toArray]; rw [HHl.out]; omega) _).mono ?_
  rintro e w10 ⟨rfl, hb10⟩
  have hB10 := hB9.trans (hb10.mono hB9.size)
  have hun := Num.unhex_hex T
  rw [show Num.unhexS ⟨(Num.hexL T).toArray⟩ = T by unfold Num.unhexS; simp only [hun]; rfl, show Num.unhexB ⟨(Num.hexL T).toArray⟩ = true by unfold Num.unhexB; simp only [hun]; rfl]
  clear hun
  have c10 := Lib.hid (Hcode.out.on hB10 hB10.size)
  go_wp2_with fail
  refine (drawReadVar_any _ k c10.out hlen).mono ?_
  rintro e w11 ⟨rfl, hb11⟩
  have hB11 := hB10.trans (hb11.mono hB10.size)
  rw [← HV.out]
  go_wp2_with fail
  refine (implReadVar_any _ (by unfold maxLen; omega) _).mono ?_
  rintro e w12 ⟨rfl, hb12⟩
  have hB12 := hB11.trans (hb12.mono hB11.size)
  obtain ⟨q1, q2⟩ := Num.rv_any V
  obtain ⟨J, hJ⟩ : ∃ J, J = Num.rvK V := ⟨_, rfl⟩
  obtain ⟨Z, hZ⟩ : ∃ Z : Nat, Z = Num.rvN V := ⟨_, rfl⟩
  rw [← hJ, ← hZ] at q2 ⊢
  rw [← hJ] at q1
  clear hJ hZ
  have Q2 := Lib.hid q2
  clear q2
  by_cases hj : J = 0
  · subst hj
    go_wp2
    go_ret
    exact ⟨rfl, hB12⟩
  · have hj0 : 0 < J := by omega
    have hje : ((J : Int) == 0) = false := by simp; omega
    have q3 := Q2.out hj
    clear hj
    have Q3 := Lib.hid q3
    clear q3
    have c12 := Lib.hid (Hcode.out.on hB12 hB12.size)
    go_wp2_with fail
    refine (drawReadVar_any _ k c12.out hlen).mono ?_
    rintro e w13 ⟨rfl, hb13⟩
    have hB13 := hB12.trans (hb13.mono hB12.size)
    rw [← HV.out]
    have c13 := Lib.hid (Hcode.out.on hB13 hB13.size)
    go_wp2_with fail
    refine (drawReadVar_any _ k c13.out hlen).mono ?_
    rintro e w14 ⟨rfl, hb14⟩
    have hB14 := hB13.trans (hb14.mono hB13.size)
    rw [← HV.out]
    go_wp2_with fail
    refine (implVar_any _ _).mono ?_
    rintro e w15 ⟨rfl, hb15⟩
    have hB15 := hB14.trans (hb15.mono hB14.size)
    have c15 := Lib.hid (Hcode.out.on hB15 hB15.size)
    go_wp2_with fail
    refine (drawReadVar_any _ k c15.out hlen).mono ?_
    rintro e w16 ⟨rfl, hb16⟩
    have hB16 := hB15.trans (hb16.mono hB15.size)
    rw [← HV.out]
    have hfin : (Num.varR Z == (V.extract 0 J).toList) = true := by rw [Q3.out]; simp
    go_wp2
    go_ret
    exact ⟨rfl, hB16⟩

set_option maxHeartbeats 2000000 in
set_option maxRecDepth 100000 in
theorem numbers_2 (k : Code) (w : World) (hcode : CodeIn w w.heap.size k.a k.cs) (hlen : k.cs.length ≤ 1048576) (n : Int) (hn : n = (Draw.num k.cs (Draw.start k.cs)).1) (hr : -1000000000 < n ∧ n < 0) (ht : HasPow w) (he : HasErrs w) :
    Calls Tryd.prog 3 #[.slice k.a k.cs.length k.cap] w fun e w' => e = .returned (.bool true) ∧ Below w.heap.size w w' := by
  obtain ⟨n0, n1⟩ := Draw.num_bd k.cs (Draw.start k.cs)
  rw [← hn] at n0 n1
  obtain ⟨T, hT⟩ : ∃ T, T = (Draw.text k.cs 40 (Draw.start k.cs)).1 := ⟨_, rfl⟩
  have hTl := Draw.text_length k.cs 40 (Draw.start k.cs) (by omega)
  rw [← hT] at hTl
  obtain ⟨V, hV⟩ : ∃ V, V = Draw.readVar k.cs := ⟨_, rfl⟩
  have hVs := Draw.readVar_size k.cs
  rw [← hV] at hVs
  have hHl := Num.hexL_length T
  have v1 := Num.var_no (n := n) (by omega)
  have f1 := Num.fix_no (n := n) (by omega) n1
  have hd := Num.rdec_itoa (n := n) (by omega) (by omega)
  have Hn := Lib.hid hn
  have HT := Lib.hid hT
  have HV := Lib.hid hV
  have V1 := Lib.hid v1
  have F1 := Lib.hid f1
  have Hd := Lib.hid hd
  have HHl := Lib.hid hHl
  have Hcode := Lib.hid hcode
  clear hn hT hV v1 f1 hd hHl hcode
  obtain ⟨r0, r1⟩ := hr
  go_enter Tryd.func3, Tryd.ntmps3
  go_wp2_with fail
  refine (big_small _ _ _ (by omega) _).mono ?_
  rintro e w0 ⟨rfl, rfl⟩
  go_wp2_with fail
  refine (drawVar_any _ k Hcode.out hlen).mono ?_
  rintro e w1 ⟨rfl, hb1⟩
  rw [← Hn.out]
  have c1 := Lib.hid (Hcode.out.on hb1 hb1.size)
  go_wp2_with fail
  refine (drawHex_any _ k c1.out hlen).mono ?_
  rintro e w2 ⟨rfl, hb2⟩
  rw [← HT.out]
  have hB2 := hb1.trans (hb2.mono hb1.size)
  go_wp2_with fail
  refine (implVar_any n _).mono ?_
  rintro e w3 ⟨rfl, hb3⟩
  rw [V1.out]
  have hB3 := hB2.trans (hb3.mono hB2.size)
  go_wp2_with fail
  refine (implReadVar_any _ (by unfold maxLen; simp only [ByteArray.size_append, ByteArray.size_mk', List.size_toArray, List.length_nil]; omega) _).mono ?_
  rintro e w4 ⟨rfl, hb4⟩
  have hB4 := hB3.trans (hb4.mono hB3.size)
  go_wp2_with fail
  refine (implFixed_any n 7 n1 _).mono ?_
  rintro e w5 ⟨rfl, hb5⟩
  rw [F1.out]
  have hB5 := hB4.trans (hb5.mono hB4.size)
  go_wp2_with fail
  refine (implReadFixed_any _ 7 (by unfold maxLen; simp only [ByteArray.size_append, ByteArray.size_mk', List.size_toArray, List.length_nil]; omega) _).mono ?_
  rintro e w6 ⟨rfl, rfl⟩
  have ht5 := ht.below hB5
  go_wp2_with fail
  refine (implDec_any n n0 n1 _ ht5).mono ?_
  rintro e w7 ⟨rfl, hb7⟩
  have hB7 := hB5.trans (hb7.mono hB5.size)
  have ht7 := ht.below hB7
  have he7 := he.below hB7
  go_wp2_with fail
  refine (implReadDec_any _ (by have := Lib.itoa_length_le n n0 n1; simp only [ByteArray.size_mk', List.size_toArray]; omega) _ ht7 he7).mono ?_
  rintro e w8 ⟨rfl, hb8⟩
  have hB8 := hB7.trans (hb8.mono hB7.size)
  rw [(Num.rd_some (s := ⟨(Lib.itoa n).toArray⟩) Hd.out).1, (Num.rd_some (s := ⟨(Lib.itoa n).toArray⟩) Hd.out).2]
  go_wp2_with fail
  refine (implHex_any _ (by simp only [ByteArray.size_mk', List.size_toArray]; omega) _).mono ?_
  rintro e w9 ⟨rfl, hb9⟩
  have hB9 := hB8.trans (hb9.mono hB8.size)
  go_wp2_with fail
  refine (implUnhex_any _ (by simp only [ByteArray.size_mk', List.size_toArray]; rw [HHl.out]; omega) _).mono ?_
  rintro e w10 ⟨rfl, hb10⟩
  have hB10 := hB9.trans (hb10.mono hB9.size)
  have hun := Num.unhex_hex T
  rw [show Num.unhexS ⟨(Num.hexL T).toArray⟩ = T by unfold Num.unhexS; simp only [hun]; rfl, show Num.unhexB ⟨(Num.hexL T).toArray⟩ = true by unfold Num.unhexB; simp only [hun]; rfl]
  clear hun
  have c10 := Lib.hid (Hcode.out.on hB10 hB10.size)
  go_wp2_with fail
  refine (drawReadVar_any _ k c10.out hlen).mono ?_
  rintro e w11 ⟨rfl, hb11⟩
  have hB11 := hB10.trans (hb11.mono hB10.size)
  rw [← HV.out]
  go_wp2_with fail
  refine (implReadVar_any _ (by unfold maxLen; omega) _).mono ?_
  rintro e w12 ⟨rfl, hb12⟩
  have hB12 := hB11.trans (hb12.mono hB11.size)
  obtain ⟨q1, q2⟩ := Num.rv_any V
  obtain ⟨J, hJ⟩ : ∃ J, J = Num.rvK V := ⟨_, rfl⟩
  obtain ⟨Z, hZ⟩ : ∃ Z : Nat, Z = Num.rvN V := ⟨_, rfl⟩
  rw [← hJ, ← hZ] at q2 ⊢
  rw [← hJ] at q1
  clear hJ hZ
  have Q2 := Lib.hid q2
  clear q2
  by_cases hj : J = 0
  · subst hj
    go_wp2
    go_ret
    exact ⟨rfl, hB12⟩
  · have hj0 : 0 < J := by omega
    have hje : ((J : Int) == 0) = false := by simp; omega
    have q3 := Q2.out hj
    clear hj
    have Q3 := Lib.hid q3
    clear q3
    have c12 := Lib.hid (Hcode.out.on hB12 hB12.size)
    go_wp2_with fail
    refine (drawReadVar_any _ k c12.out hlen).mono ?_
    rintro e w13 ⟨rfl, hb13⟩
    have hB13 := hB12.trans (hb13.mono hB12.size)
    rw [← HV.out]
    have c13 := Lib.hid (Hcode.out.on hB13 hB13.size)
    go_wp2_with fail
    refine (drawReadVar_any _ k c13.out hlen).mono ?_
    rintro e w14 ⟨rfl, hb14⟩
    have hB14 := hB13.trans (hb14.mono hB13.size)
    rw [← HV.out]
    go_wp2_with fail
    refine (implVar_any _ _).mono ?_
    rintro e w15 ⟨rfl, hb15⟩
    have hB15 := hB14.trans (hb15.mono hB14.size)
    have c15 := Lib.hid (Hcode.out.on hB15 hB15.size)
    go_wp2_with fail
    refine (drawReadVar_any _ k c15.out hlen).mono ?_
    rintro e w16 ⟨rfl, hb16⟩
    have hB16 := hB15.trans (hb16.mono hB15.size)
    rw [← HV.out]
    have hfin : (Num.varR Z == (V.extract 0 J).toList) = true := by rw [Q3.out]; simp
    go_wp2
    go_ret
    exact ⟨rfl, hB16⟩

set_option maxHeartbeats 2000000 in
set_option maxRecDepth 100000 in
theorem numbers_3 (k : Code) (w : World) (hcode : CodeIn w w.heap.size k.a k.cs) (hlen : k.cs.length ≤ 1048576) (n : Int) (hn : n = (Draw.num k.cs (Draw.start k.cs)).1) (hr : 0 ≤ n ∧ n < 1000000000) (ht : HasPow w) (he : HasErrs w) :
    Calls Tryd.prog 3 #[.slice k.a k.cs.length k.cap] w fun e w' => e = .returned (.bool true) ∧ Below w.heap.size w w' := by
  obtain ⟨n0, n1⟩ := Draw.num_bd k.cs (Draw.start k.cs)
  rw [← hn] at n0 n1
  obtain ⟨T, hT⟩ : ∃ T, T = (Draw.text k.cs 40 (Draw.start k.cs)).1 := ⟨_, rfl⟩
  have hTl := Draw.text_length k.cs 40 (Draw.start k.cs) (by omega)
  rw [← hT] at hTl
  obtain ⟨V, hV⟩ : ∃ V, V = Draw.readVar k.cs := ⟨_, rfl⟩
  have hVs := Draw.readVar_size k.cs
  rw [← hV] at hVs
  have hHl := Num.hexL_length T
  obtain ⟨b, l, v1, v2, v3, v4⟩ := Num.var_yes (n := n) (by omega) (by omega) T
  obtain ⟨L, hL⟩ : ∃ L, L = b :: l := ⟨_, rfl⟩
  have hLl : L.length = l.length + 1 := by rw [hL]; rfl
  rw [← hL] at v1 v3 v4
  rw [← hLl] at v4
  have hLe : L.isEmpty = false := by rw [hL]; rfl
  have hLb : (L == []) = false := by rw [hL]; rfl
  have hL7 : L.length ≤ 7 := by omega
  clear hLl hL
  obtain ⟨fb, fl, f1, f2, f3, f4⟩ := Num.fix_yes (n := n) (by omega) (by omega) T
  obtain ⟨F, hF⟩ : ∃ F, F = fb :: fl := ⟨_, rfl⟩
  have hFl : F.length = 7 := by rw [hF]; simp; omega
  rw [← hF] at f1 f3 f4
  have hFe : F.isEmpty = false := by rw [hF]; rfl
  have hFb : (F == []) = false := by rw [hF]; rfl
  clear hF
  have HFl := Lib.hid hFl
  have hF7 : F.length ≤ 7 := by omega
  have hF7' : 7 ≤ F.length := by omega
  have hFlen : ((F.length : Int) != 7) = false := by simp; omega
  clear hFl
  have hd := Num.rdec_itoa (n := n) (by omega) (by omega)
  have Hn := Lib.hid hn
  have HT := Lib.hid hT
  have HV := Lib.hid hV
  have V1 := Lib.hid v1
  have F1 := Lib.hid f1
  have Hd := Lib.hid hd
  have HHl := Lib.hid hHl
  have Hcode := Lib.hid hcode
  have V3 := Lib.hid v3
  have V4 := Lib.hid v4
  have F3 := Lib.hid f3
  have F4 := Lib.hid f4
  clear hn hT hV v1 f1 hd hHl hcode v3 v4 f3 f4
  obtain ⟨r0, r1⟩ := hr
  go_enter Tryd.func3, Tryd.ntmps3
  go_wp2_with fail
  refine (big_small _ _ _ (by omega) _).mono ?_
  rintro e w0 ⟨rfl, rfl⟩
  go_wp2_with fail
  refine (drawVar_any _ k Hcode.out hlen).mono ?_
  rintro e w1 ⟨rfl, hb1⟩
  rw [← Hn.out]
  have c1 := Lib.hid (Hcode.out.on hb1 hb1.size)
  go_wp2_with fail
  refine (drawHex_any _ k c1.out hlen).mono ?_
  rintro e w2 ⟨rfl, hb2⟩
  rw [← HT.out]
  have hB2 := hb1.trans (hb2.mono hb1.size)
  go_wp2_with fail
  refine (implVar_any n _).mono ?_
  rintro e w3 ⟨rfl, hb3⟩
  rw [V1.out]
  have hB3 := hB2.trans (hb3.mono hB2.size)
  go_wp2_with fail
  refine (implReadVar_any _ (by unfold maxLen; simp only [ByteArray.size_append, ByteArray.size_mk', List.size_toArray]; omega) _).mono ?_
  rintro e w4 ⟨rfl, hb4⟩
  rw [V3.out, V4.out]
  have hB4 := hB3.trans (hb4.mono hB3.size)
  go_wp2_with fail
  refine (implFixed_any n 7 n1 _).mono ?_
  rintro e w5 ⟨rfl, hb5⟩
  rw [F1.out]
  have hB5 := hB4.trans (hb5.mono hB4.size)
  go_wp2_with fail
  refine (implReadFixed_any _ 7 (by unfold maxLen; simp only [ByteArray.size_append, ByteArray.size_mk', List.size_toArray]; omega) _).mono ?_
  rintro e w6 ⟨rfl, rfl⟩
  rw [F3.out, F4.out]
  have ht5 := ht.below hB5
  go_wp2_with fail
  refine (implDec_any n n0 n1 _ ht5).mono ?_
  rintro e w7 ⟨rfl, hb7⟩
  have hB7 := hB5.trans (hb7.mono hB5.size)
  have ht7 := ht.below hB7
  have he7 := he.below hB7
  go_wp2_with fail
  refine (implReadDec_any _ (by have := Lib.itoa_length_le n n0 n1; simp only [ByteArray.size_mk', List.size_toArray]; omega) _ ht7 he7).mono ?_
  rintro e w8 ⟨rfl, hb8⟩
  have hB8 := hB7.trans (hb8.mono hB7.size)
  rw [(Num.rd_some (s := ⟨(Lib.itoa n).toArray⟩) Hd.out).1, (Num.rd_some (s := ⟨(Lib.itoa n).toArray⟩) Hd.out).2]
  go_wp2_with fail
  refine (implHex_any _ (by simp only [ByteArray.size_mk', List.size_toArray]; omega) _).mono ?_
  rintro e w9 ⟨rfl, hb9⟩
  have hB9 := hB8.trans (hb9.mono hB8.size)
  go_wp2_with fail
  refine (implUnhex_any _ (by simp only [ByteArray.size_mk', List.size_toArray]; rw [HHl.out]; omega) _).mono ?_
  rintro e w10 ⟨rfl, hb10⟩
  have hB10 := hB9.trans (hb10.mono hB9.size)
  have hun := Num.unhex_hex T
  rw [show Num.unhexS ⟨(Num.hexL T).toArray⟩ = T by unfold Num.unhexS; simp only [hun]; rfl, show Num.unhexB ⟨(Num.hexL T).toArray⟩ = true by unfold Num.unhexB; simp only [hun]; rfl]
  clear hun
  have c10 := Lib.hid (Hcode.out.on hB10 hB10.size)
  go_wp2_with fail
  refine (drawReadVar_any _ k c10.out hlen).mono ?_
  rintro e w11 ⟨rfl, hb11⟩
  have hB11 := hB10.trans (hb11.mono hB10.size)
  rw [← HV.out]
  go_wp2_with fail
  refine (implReadVar_any _ (by unfold maxLen; omega) _).mono ?_
  rintro e w12 ⟨rfl, hb12⟩
  have hB12 := hB11.trans (hb12.mono hB11.size)
  obtain ⟨q1, q2⟩ := Num.rv_any V
  obtain ⟨J, hJ⟩ : ∃ J, J = Num.rvK V := ⟨_, rfl⟩
  obtain ⟨Z, hZ⟩ : ∃ Z : Nat, Z = Num.rvN V := ⟨_, rfl⟩
  rw [← hJ, ← hZ] at q2 ⊢
  rw [← hJ] at q1
  clear hJ hZ
  have Q2 := Lib.hid q2
  clear q2
  by_cases hj : J = 0
  · subst hj
    go_wp2
    go_ret
    exact ⟨rfl, hB12⟩
  · have hj0 : 0 < J := by omega
    have hje : ((J : Int) == 0) = false := by simp; omega
    have q3 := Q2.out hj
    clear hj
    have Q3 := Lib.hid q3
    clear q3
    have c12 := Lib.hid (Hcode.out.on hB12 hB12.size)
    go_wp2_with fail
    refine (drawReadVar_any _ k c12.out hlen).mono ?_
    rintro e w13 ⟨rfl, hb13⟩
    have hB13 := hB12.trans (hb13.mono hB12.size)
    rw [← HV.out]
    have c13 := Lib.hid (Hcode.out.on hB13 hB13.size)
    go_wp2_with fail
    refine (drawReadVar_any _ k c13.out hlen).mono ?_
    rintro e w14 ⟨rfl, hb14⟩
    have hB14 := hB13.trans (hb14.mono hB13.size)
    rw [← HV.out]
    go_wp2_with fail
    refine (implVar_any _ _).mono ?_
    rintro e w15 ⟨rfl, hb15⟩
    have hB15 := hB14.trans (hb15.mono hB14.size)
    have c15 := Lib.hid (Hcode.out.on hB15 hB15.size)
    go_wp2_with fail
    refine (drawReadVar_any _ k c15.out hlen).mono ?_
    rintro e w16 ⟨rfl, hb16⟩
    have hB16 := hB15.trans (hb16.mono hB15.size)
    rw [← HV.out]
    have hfin : (Num.varR Z == (V.extract 0 J).toList) = true := by rw [Q3.out]; simp
    go_wp2
    go_ret
    exact ⟨rfl, hB16⟩

set_option maxHeartbeats 2000000 in
set_option maxRecDepth 100000 in
theorem numbers_4 (k : Code) (w : World) (hcode : CodeIn w w.heap.size k.a k.cs) (hlen : k.cs.length ≤ 1048576) (n : Int) (hn : n = (Draw.num k.cs (Draw.start k.cs)).1) (hr : 1000000000 ≤ n ∧ n ≤ 562949953421311) (ht : HasPow w) (he : HasErrs w) :
    Calls Tryd.prog 3 #[.slice k.a k.cs.length k.cap] w fun e w' => e = .returned (.bool true) ∧ Below w.heap.size w w' := by
  obtain ⟨n0, n1⟩ := Draw.num_bd k.cs (Draw.start k.cs)
  rw [← hn] at n0 n1
  obtain ⟨T, hT⟩ : ∃ T, T = (Draw.text k.cs 40 (Draw.start k.cs)).1 := ⟨_, rfl⟩
  have hTl := Draw.text_length k.cs 40 (Draw.start k.cs) (by omega)
  rw [← hT] at hTl
  obtain ⟨V, hV⟩ : ∃ V, V = Draw.readVar k.cs := ⟨_, rfl⟩
  have hVs := Draw.readVar_size k.cs
  rw [← hV] at hVs
  have hHl := Num.hexL_length T
  obtain ⟨b, l, v1, v2, v3, v4⟩ := Num.var_yes (n := n) (by omega) (by omega) T
  obtain ⟨L, hL⟩ : ∃ L, L = b :: l := ⟨_, rfl⟩
  have hLl : L.length = l.length + 1 := by rw [hL]; rfl
  rw [← hL] at v1 v3 v4
  rw [← hLl] at v4
  have hLe : L.isEmpty = false := by rw [hL]; rfl
  have hLb : (L == []) = false := by rw [hL]; rfl
  have hL7 : L.length ≤ 7 := by omega
  clear hLl hL
  obtain ⟨fb, fl, f1, f2, f3, f4⟩ := Num.fix_yes (n := n) (by omega) (by omega) T
  obtain ⟨F, hF⟩ : ∃ F, F = fb :: fl := ⟨_, rfl⟩
  have hFl : F.length = 7 := by rw [hF]; simp; omega
  rw [← hF] at f1 f3 f4
  have hFe : F.isEmpty = false := by rw [hF]; rfl
  have hFb : (F == []) = false := by rw [hF]; rfl
  clear hF
  have HFl := Lib.hid hFl
  have hF7 : F.length ≤ 7 := by omega
  have hF7' : 7 ≤ F.length := by omega
  have hFlen : ((F.length : Int) != 7) = false := by simp; omega
  clear hFl
  have hd := Num.rdec_itoa_no (n := n) (by omega)
  have Hn := Lib.hid hn
  have HT := Lib.hid hT
  have HV := Lib.hid hV
  have V1 := Lib.hid v1
  have F1 := Lib.hid f1
  have Hd := Lib.hid hd
  have HHl := Lib.hid hHl
  have Hcode := Lib.hid hcode
  have V3 := Lib.hid v3
  have V4 := Lib.hid v4
  have F3 := Lib.hid f3
  have F4 := Lib.hid f4
  clear hn hT hV v1 f1 hd hHl hcode v3 v4 f3 f4
  obtain ⟨r0, r1⟩ := hr
  go_enter Tryd.func3, Tryd.ntmps3
  go_wp2_with fail
  refine (big_small _ _ _ (by omega) _).mono ?_
  rintro e w0 ⟨rfl, rfl⟩
  go_wp2_with fail
  refine (drawVar_any _ k Hcode.out hlen).mono ?_
  rintro e w1 ⟨rfl, hb1⟩
  rw [← Hn.out]
  have c1 := Lib.hid (Hcode.out.on hb1 hb1.size)
  go_wp2_with fail
  refine (drawHex_any _ k c1.out hlen).mono ?_
  rintro e w2 ⟨rfl, hb2⟩
  rw [← HT.out]
  have hB2 := hb1.trans (hb2.mono hb1.size)
  go_wp2_with fail
  refine (implVar_any n _).mono ?_
  rintro e w3 ⟨rfl, hb3⟩
  rw [V1.out]
  have hB3 := hB2.trans (hb3.mono hB2.size)
  go_wp2_with fail
  refine (implReadVar_any _ (by unfold maxLen; simp only [ByteArray.size_append, ByteArray.size_mk', List.size_toArray]; omega) _).mono ?_
  rintro e w4 ⟨rfl, hb4⟩
  rw [V3.out, V4.out]
  have hB4 := hB3.trans (hb4.mono hB3.size)
  go_wp2_with fail
  refine (implFixed_any n 7 n1 _).mono ?_
  rintro e w5 ⟨rfl, hb5⟩
  rw [F1.out]
  have hB5 := hB4.trans (hb5.mono hB4.size)
  go_wp2_with fail
  refine (implReadFixed_any _ 7 (by unfold maxLen; simp only [ByteArray.size_append, ByteArray.size_mk', List.size_toArray]; omega) _).mono ?_
  rintro e w6 ⟨rfl, rfl⟩
  rw [F3.out, F4.out]
  have ht5 := ht.below hB5
  go_wp2_with fail
  refine (implDec_any n n0 n1 _ ht5).mono ?_
  rintro e w7 ⟨rfl, hb7⟩
  have hB7 := hB5.trans (hb7.mono hB5.size)
  have ht7 := ht.below hB7
  have he7 := he.below hB7
  go_wp2_with fail
  refine (implReadDec_any _ (by have := Lib.itoa_length_le n n0 n1; simp only [ByteArray.size_mk', List.size_toArray]; omega) _ ht7 he7).mono ?_
  rintro e w8 ⟨rfl, hb8⟩
  have hB8 := hB7.trans (hb8.mono hB7.size)
  rw [(Num.rd_none (s := ⟨(Lib.itoa n).toArray⟩) Hd.out).1, (Num.rd_none (s := ⟨(Lib.itoa n).toArray⟩) Hd.out).2]
  go_wp2_with fail
  refine (implHex_any _ (by simp only [ByteArray.size_mk', List.size_toArray]; omega) _).mono ?_
  rintro e w9 ⟨rfl, hb9⟩
  have hB9 := hB8.trans (hb9.mono hB8.size)
  go_wp2_with fail
  refine (implUnhex_any _ (by simp only [ByteArray.size_mk', List.size_toArray]; rw [HHl.out]; omega) _).mono ?_
  rintro e w10 ⟨rfl, hb10⟩
  have hB10 := hB9.trans (hb10.mono hB9.size)
  have hun := Num.unhex_hex T
  rw [show Num.unhexS ⟨(Num.hexL T).toArray⟩ = T by unfold Num.unhexS; simp only [hun]; rfl, show Num.unhexB ⟨(Num.hexL T).toArray⟩ = true by unfold Num.unhexB; simp only [hun]; rfl]
  clear hun
  have c10 := Lib.hid (Hcode.out.on hB10 hB10.size)
  go_wp2_with fail
  refine (drawReadVar_any _ k c10.out hlen).mono ?_
  rintro e w11 ⟨rfl, hb11⟩
  have hB11 := hB10.trans (hb11.mono hB10.size)
  rw [← HV.out]
  go_wp2_with fail
  refine (implReadVar_any _ (by unfold maxLen; omega) _).mono ?_
  rintro e w12 ⟨rfl, hb12⟩
  have hB12 := hB11.trans (hb12.mono hB11.size)
  obtain ⟨q1, q2⟩ := Num.rv_any V
  obtain ⟨J, hJ⟩ : ∃ J, J = Num.rvK V := ⟨_, rfl⟩
  obtain ⟨Z, hZ⟩ : ∃ Z : Nat, Z = Num.rvN V := ⟨_, rfl⟩
  rw [← hJ, ← hZ] at q2 ⊢
  rw [← hJ] at q1
  clear hJ hZ
  have Q2 := Lib.hid q2
  clear q2
  by_cases hj : J = 0
  · subst hj
    go_wp2
    go_ret
    exact ⟨rfl, hB12⟩
  · have hj0 : 0 < J := by omega
    have hje : ((J : Int) == 0) = false := by simp; omega
    have q3 := Q2.out hj
    clear hj
    have Q3 := Lib.hid q3
    clear q3
    have c12 := Lib.hid (Hcode.out.on hB12 hB12.size)
    go_wp2_with fail
    refine (drawReadVar_any _ k c12.out hlen).mono ?_
    rintro e w13 ⟨rfl, hb13⟩
    have hB13 := hB12.trans (hb13.mono hB12.size)
    rw [← HV.out]
    have c13 := Lib.hid (Hcode.out.on hB13 hB13.size)
    go_wp2_with fail
    refine (drawReadVar_any _ k c13.out hlen).mono ?_
    rintro e w14 ⟨rfl, hb14⟩
    have hB14 := hB13.trans (hb14.mono hB13.size)
    rw [← HV.out]
    go_wp2_with fail
    refine (implVar_any _ _).mono ?_
    rintro e w15 ⟨rfl, hb15⟩
    have hB15 := hB14.trans (hb15.mono hB14.size)
    have c15 := Lib.hid (Hcode.out.on hB15 hB15.size)
    go_wp2_with fail
    refine (drawReadVar_any _ k c15.out hlen).mono ?_
    rintro e w16 ⟨rfl, hb16⟩
    have hB16 := hB15.trans (hb16.mono hB15.size)
    rw [← HV.out]
    have hfin : (Num.varR Z == (V.extract 0 J).toList) = true := by rw [Q3.out]; simp
    go_wp2
    go_ret
    exact ⟨rfl, hB16⟩

set_option maxHeartbeats 2000000 in
set_option maxRecDepth 100000 in
theorem numbers_5 (k : Code) (w : World) (hcode : CodeIn w w.heap.size k.a k.cs) (hlen : k.cs.length ≤ 1048576) (n : Int) (hn : n = (Draw.num k.cs (Draw.start k.cs)).1) (hr : 562949953421311 < n ∧ n < 72057594037927936) (ht : HasPow w) (he : HasErrs w) :
    Calls Tryd.prog 3 #[.slice k.a k.cs.length k.cap] w fun e w' => e = .returned (.bool true) ∧ Below w.heap.size w w' := by
  obtain ⟨n0, n1⟩ := Draw.num_bd k.cs (Draw.start k.cs)
  rw [← hn] at n0 n1
  obtain ⟨T, hT⟩ : ∃ T, T = (Draw.text k.cs 40 (Draw.start k.cs)).1 := ⟨_, rfl⟩
  have hTl := Draw.text_length k.cs 40 (Draw.start k.cs) (by omega)
  rw [← hT] at hTl
  obtain ⟨V, hV⟩ : ∃ V, V = Draw.readVar k.cs := ⟨_, rfl⟩
  have hVs := Draw.readVar_size k.cs
  rw [← hV] at hVs
  have hHl := Num.hexL_length T
  have v1 := Num.var_no (n := n) (by omega)
  obtain ⟨fb, fl, f1, f2, f3, f4⟩ := Num.fix_yes (n := n) (by omega) (by omega) T
  obtain ⟨F, hF⟩ : ∃ F, F = fb :: fl := ⟨_, rfl⟩
  have hFl : F.length = 7 := by rw [hF]; simp; omega
  rw [← hF] at f1 f3 f4
  have hFe : F.isEmpty = false := by rw [hF]; rfl
  have hFb : (F == []) = false := by rw [hF]; rfl
  clear hF
  have HFl := Lib.hid hFl
  have hF7 : F.length ≤ 7 := by omega
  have hF7' : 7 ≤ F.length := by omega
  have hFlen : ((F.length : Int) != 7) = false := by simp; omega
  clear hFl
  have hd := Num.rdec_itoa_no (n := n) (by omega)
  have Hn := Lib.hid hn
  have HT := Lib.hid hT
  have HV := Lib.hid hV
  have V1 := Lib.hid v1
  have F1 := Lib.hid f1
  have Hd := Lib.hid hd
  have HHl := Lib.hid hHl
  have Hcode := Lib.hid hcode
  have F3 := Lib.hid f3
  have F4 := Lib.hid f4
  clear hn hT hV v1 f1 hd hHl hcode f3 f4
  obtain ⟨r0, r1⟩ := hr
  go_enter Tryd.func3, Tryd.ntmps3
  go_wp2_with fail
  refine (big_small _ _ _ (by omega) _).mono ?_
  rintro e w0 ⟨rfl, rfl⟩
  go_wp2_with fail
  refine (drawVar_any _ k Hcode.out hlen).mono ?_
  rintro e w1 ⟨rfl, hb1⟩
  rw [← Hn.out]
  have c1 := Lib.hid (Hcode.out.on hb1 hb1.size)
  go_wp2_with fail
  refine (drawHex_any _ k c1.out hlen).mono ?_
  rintro e w2 ⟨rfl, hb2⟩
  rw [← HT.out]
  have hB2 := hb1.trans (hb2.mono hb1.size)
  go_wp2_with fail
  refine (implVar_any n _).mono ?_
  rintro e w3 ⟨rfl, hb3⟩
  rw [V1.out]
  have hB3 := hB2.trans (hb3.mono hB2.size)
  go_wp2_with fail
  refine (implReadVar_any _ (by unfold maxLen; simp only [ByteArray.size_append, ByteArray.size_mk', List.size_toArray, List.length_nil]; omega) _).mono ?_
  rintro e w4 ⟨rfl, hb4⟩
  have hB4 := hB3.trans (hb4.mono hB3.size)
  go_wp2_with fail
  refine (implFixed_any n 7 n1 _).mono ?_
  rintro e w5 ⟨rfl, hb5⟩
  rw [F1.out]
  have hB5 := hB4.trans (hb5.mono hB4.size)
  go_wp2_with fail
  refine (implReadFixed_any _ 7 (by unfold maxLen; simp only [ByteArray.size_append, ByteArray.size_mk', List.size_toArray]; omega) _).mono ?_
  rintro e w6 ⟨rfl, rfl⟩
  rw [F3.out, F4.out]
  have ht5 := ht.below hB5
  go_wp2_with fail
  refine (implDec_any n n0 n1 _ ht5).mono ?_
  rintro e w7 ⟨rfl, hb7⟩
  have hB7 := hB5.trans (hb7.mono hB5.size)
  have ht7 := ht.below hB7
  have he7 := he.below hB7
  go_wp2_with fail
  refine (implReadDec_any _ (by have := Lib.itoa_length_le n n0 n1; simp only [ByteArray.size_mk', List.size_toArray]; omega) _ ht7 he7).mono ?_
  rintro e w8 ⟨rfl, hb8⟩
  have hB8 := hB7.trans (hb8.mono hB7.size)
  rw [(Num.rd_none (s := ⟨(Lib.itoa n).toArray⟩) Hd.out).1, (Num.rd_none (s := ⟨(Lib.itoa n).toArray⟩) Hd.out).2]
  go_wp2_with fail
  refine (implHex_any _ (by simp only [ByteArray.size_mk', List.size_toArray]; omega) _).mono ?_
  rintro e w9 ⟨rfl, hb9⟩
  have hB9 := hB8.trans (hb9.mono hB8.size)
  go_wp2_with fail
  refine (implUnhex_any _ (by simp only [ByteArray.size_mk', List.size_toArray]; rw [HHl.out]; omega) _).mono ?_
  rintro e w10 ⟨rfl, hb10⟩
  have hB10 := hB9.trans (hb10.mono hB9.size)
  have hun := Num.unhex_hex T
  rw [show Num.unhexS ⟨(Num.hexL T).toArray⟩ = T by unfold Num.unhexS; simp only [hun]; rfl, show Num.unhexB ⟨(Num.hexL T).toArray⟩ = true by unfold Num.unhexB; simp only [hun]; rfl]
  clear hun
  have c10 := Lib.hid (Hcode.out.on hB10 hB10.size)
  go_wp2_with fail
  refine (drawReadVar_any _ k c10.out hlen).mono ?_
  rintro e w11 ⟨rfl, hb11⟩
  have hB11 := hB10.trans (hb11.mono hB10.size)
  rw [← HV.out]
  go_wp2_with fail
  refine (implReadVar_any _ (by unfold maxLen; omega) _).mono ?_
  rintro e w12 ⟨rfl, hb12⟩
  have hB12 := hB11.trans (hb12.mono hB11.size)
  obtain ⟨q1, q2⟩ := Num.rv_any V
  obtain ⟨J, hJ⟩ : ∃ J, J = Num.rvK V := ⟨_, rfl⟩
  obtain ⟨Z, hZ⟩ : ∃ Z : Nat, Z = Num.rvN V := ⟨_, rfl⟩
  rw [← hJ, ← hZ] at q2 ⊢
  rw [← hJ] at q1
  clear hJ hZ
  have Q2 := Lib.hid q2
  clear q2
  by_cases hj : J = 0
  · subst hj
    go_wp2
    go_ret
    exact ⟨rfl, hB12⟩
  · have hj0 : 0 < J := by omega
    have hje : ((J : Int) == 0) = false := by simp; omega
    have q3 := Q2.out hj
    clear hj
    have Q3 := Lib.hid q3
    clear q3
    have c12 := Lib.hid (Hcode.out.on hB12 hB12.size)
    go_wp2_with fail
    refine (drawReadVar_any _ k c12.out hlen).mono ?_
    rintro e w13 ⟨rfl, hb13⟩
    have hB13 := hB12.trans (hb13.mono hB12.size)
    rw [← HV.out]
    have c13 := Lib.hid (Hcode.out.on hB13 hB13.size)
    go_wp2_with fail
    refine (drawReadVar_any _ k c13.out hlen).mono ?_
    rintro e w14 ⟨rfl, hb14⟩
    have hB14 := hB13.trans (hb14.mono hB13.size)
    rw [← HV.out]
    go_wp2_with fail
    refine (implVar_any _ _).mono ?_
    rintro e w15 ⟨rfl, hb15⟩
    have hB15 := hB14.trans (hb15.mono hB14.size)
    have c15 := Lib.hid (Hcode.out.on hB15 hB15.size)
    go_wp2_with fail
    refine (drawReadVar_any _ k c15.out hlen).mono ?_
    rintro e w16 ⟨rfl, hb16⟩
    have hB16 := hB15.trans (hb16.mono hB15.size)
    rw [← HV.out]
    have hfin : (Num.varR Z == (V.extract 0 J).toList) = true := by rw [Q3.out]; simp
    go_wp2
    go_ret
    exact ⟨rfl, hB16⟩

set_option maxHeartbeats 2000000 in
set_option maxRecDepth 100000 in
theorem numbers_6 (k : Code) (w : World) (hcode : CodeIn w w.heap.size k.a k.cs) (hlen : k.cs.length ≤ 1048576) (n : Int) (hn : n = (Draw.num k.cs (Draw.start k.cs)).1) (hr : 72057594037927936 ≤ n) (ht : HasPow w) (he : HasErrs w) :
    Calls Tryd.prog 3 #[.slice k.a k.cs.length k.cap] w fun e w' => e = .returned (.bool true) ∧ Below w.heap.size w w' := by
  obtain ⟨n0, n1⟩ := Draw.num_bd k.cs (Draw.start k.cs)
  rw [← hn] at n0 n1
  obtain ⟨T, hT⟩ : ∃ T, T = (Draw.text k.cs 40 (Draw.start k.cs)).1 := ⟨_, rfl⟩
  have hTl := Draw.text_length k.cs 40 (Draw.start k.cs) (by omega)
  rw [← hT] at hTl
  obtain ⟨V, hV⟩ : ∃ V, V = Draw.readVar k.cs := ⟨_, rfl⟩
  have hVs := Draw.readVar_size k.cs
  rw [← hV] at hVs
  have hHl := Num.hexL_length T
  have v1 := Num.var_no (n := n) (by omega)
  have f1 := Num.fix_no (n := n) (by omega) n1
  have hd := Num.rdec_itoa_no (n := n) (by omega)
  have Hn := Lib.hid hn
  have HT := Lib.hid hT
  have HV := Lib.hid hV
  have V1 := Lib.hid v1
  have F1 := Lib.hid f1
  have Hd := Lib.hid hd
  have HHl := Lib.hid hHl
  have Hcode := Lib.hid hcode
  clear hn hT hV v1 f1 hd hHl hcode
  go_enter Tryd.func3, Tryd.ntmps3
  go_wp2_with fail
  refine (big_small _ _ _ (by omega) _).mono ?_
  rintro e w0 ⟨rfl, rfl⟩
  go_wp2_with fail
  refine (drawVar_any _ k Hcode.out hlen).mono ?_
  rintro e w1 ⟨rfl, hb1⟩
  rw [← Hn.out]
  have c1 := Lib.hid (Hcode.out.on hb1 hb1.size)
  go_wp2_with fail
  refine (drawHex_any _ k c1.out hlen).mono ?_
  rintro e w2 ⟨rfl, hb2⟩
  rw [← HT.out]
  have hB2 := hb1.trans (hb2.mono hb1.size)
  go_wp2_with fail
  refine (implVar_any n _).mono ?_
  rintro e w3 ⟨rfl, hb3⟩
  rw [V1.out]
  have hB3 := hB2.trans (hb3.mono hB2.size)
  go_wp2_with fail
  refine (implReadVar_any _ (by unfold maxLen; simp only [ByteArray.size_append, ByteArray.size_mk', List.size_toArray, List.length_nil]; omega) _).mono ?_
  rintro e w4 ⟨rfl, hb4⟩
  have hB4 := hB3.trans (hb4.mono hB3.size)
  go_wp2_with fail
  refine (implFixed_any n 7 n1 _).mono ?_
  rintro e w5 ⟨rfl, hb5⟩
  rw [F1.out]
  have hB5 := hB4.trans (hb5.mono hB4.size)
  go_wp2_with fail
  refine (implReadFixed_any _ 7 (by unfold maxLen; simp only [ByteArray.size_append, ByteArray.size_mk', List.size_toArray, List.length_nil]; omega) _).mono ?_
  rintro e w6 ⟨rfl, rfl⟩
  have ht5 := ht.below hB5
  go_wp2_with fail
  refine (implDec_any n n0 n1 _ ht5).mono ?_
  rintro e w7 ⟨rfl, hb7⟩
  have hB7 := hB5.trans (hb7.mono hB5.size)
  have ht7 := ht.below hB7
  have he7 := he.below hB7
  go_wp2_with fail
  refine (implReadDec_any _ (by have := Lib.itoa_length_le n n0 n1; simp only [ByteArray.size_mk', List.size_toArray]; omega) _ ht7 he7).mono ?_
  rintro e w8 ⟨rfl, hb8⟩
  have hB8 := hB7.trans (hb8.mono hB7.size)
  rw [(Num.rd_none (s := ⟨(Lib.itoa n).toArray⟩) Hd.out).1, (Num.rd_none (s := ⟨(Lib.itoa n).toArray⟩) Hd.out).2]
  go_wp2_with fail
  refine (implHex_any _ (by simp only [ByteArray.size_mk', List.size_toArray]; omega) _).mono ?_
  rintro e w9 ⟨rfl, hb9⟩
  have hB9 := hB8.trans (hb9.mono hB8.size)
  go_wp2_with fail
  refine (implUnhex_any _ (by simp only [ByteArray.size_mk', List.size_toArray]; rw [HHl.out]; omega) _).mono ?_
  rintro e w10 ⟨rfl, hb10⟩
  have hB10 := hB9.trans (hb10.mono hB9.size)
  have hun := Num.unhex_hex T
  rw [show Num.unhexS ⟨(Num.hexL T).toArray⟩ = T by unfold Num.unhexS; simp only [hun]; rfl, show Num.unhexB ⟨(Num.hexL T).toArray⟩ = true by unfold Num.unhexB; simp only [hun]; rfl]
  clear hun
  have c10 := Lib.hid (Hcode.out.on hB10 hB10.size)
  go_wp2_with fail
  refine (drawReadVar_any _ k c10.out hlen).mono ?_
  rintro e w11 ⟨rfl, hb11⟩
  have hB11 := hB10.trans (hb11.mono hB10.size)
  rw [← HV.out]
  go_wp2_with fail
  refine (implReadVar_any _ (by unfold maxLen; omega) _).mono ?_
  rintro e w12 ⟨rfl, hb12⟩
  have hB12 := hB11.trans (hb12.mono hB11.size)
  obtain ⟨q1, q2⟩ := Num.rv_any V
  obtain ⟨J, hJ⟩ : ∃ J, J = Num.rvK V := ⟨_, rfl⟩
  obtain ⟨Z, hZ⟩ : ∃ Z : Nat, Z = Num.rvN V := ⟨_, rfl⟩
  rw [← hJ, ← hZ] at q2 ⊢
  rw [← hJ] at q1
  clear hJ hZ
  have Q2 := Lib.hid q2
  clear q2
  by_cases hj : J = 0
  · subst hj
    go_wp2
    go_ret
    exact ⟨rfl, hB12⟩
  · have hj0 : 0 < J := by omega
    have hje : ((J : Int) == 0) = false := by simp; omega
    have q3 := Q2.out hj
    clear hj
    have Q3 := Lib.hid q3
    clear q3
    have c12 := Lib.hid (Hcode.out.on hB12 hB12.size)
    go_wp2_with fail
    refine (drawReadVar_any _ k c12.out hlen).mono ?_
    rintro e w13 ⟨rfl, hb13⟩
    have hB13 := hB12.trans (hb13.mono hB12.size)
    rw [← HV.out]
    have c13 := Lib.hid (Hcode.out.on hB13 hB13.size)
    go_wp2_with fail
    refine (drawReadVar_any _ k c13.out hlen).mono ?_
    rintro e w14 ⟨rfl, hb14⟩
    have hB14 := hB13.trans (hb14.mono hB13.size)
    rw [← HV.out]
    go_wp2_with fail
    refine (implVar_any _ _).mono ?_
    rintro e w15 ⟨rfl, hb15⟩
    have hB15 := hB14.trans (hb15.mono hB14.size)
    have c15 := Lib.hid (Hcode.out.on hB15 hB15.size)
    go_wp2_with fail
    refine (drawReadVar_any _ k c15.out hlen).mono ?_
    rintro e w16 ⟨rfl, hb16⟩
    have hB16 := hB15.trans (hb16.mono hB15.size)
    rw [← HV.out]
    have hfin : (Num.varR Z == (V.extract 0 J).toList) = true := by rw [Q3.out]; simp
    go_wp2
    go_ret
    exact ⟨rfl, hB16⟩

theorem code_of {w : World} {a : Option Addr} {n cap : Nat} {zs : List Int} (h : Kit.BytesIn w a n cap zs) : (zs.take n).length = n ∧ CodeIn w w.heap.size a (zs.take n) := by
  rcases h with ⟨rfl, rfl, rfl, rfl⟩ | ⟨x, rfl, hl, hm, hz, hcell, hwz⟩
  · exact ⟨rfl, fun j hj => by simp at hj⟩
  · have hlen : (zs.take n).length = n := by simp; omega
    refine ⟨hlen, fun j hj => ?_⟩
    have hj' : j < n := by omega
    have hc := hcell j (by omega)
    obtain ⟨b, off, spot⟩ := x
    have hspot : spot = none := by
      have := World.cell?_spot (hcell 0 (by omega))
      simpa [Addr.add] using this
    subst hspot
    have e : ((⟨b, off, none⟩ : Addr).add j) = ⟨b, off + j, none⟩ := by unfold Addr.add; split <;> simp_all
    rw [e] at hc
    have hg : (zs.take n).getD j 0 = zs.getD j 0 := by simp [List.getD, hj']
    refine ⟨b, off, rfl, ?_, by rw [hg]; exact hc, ?_⟩
    · rcases Nat.lt_or_ge b w.heap.size with h' | h'
      · exact h'
      · simp [World.cell?, Array.getElem?_eq_none h'] at hc
    · rw [hg]
      have hm : zs.getD j 0 ∈ zs := by
        rw [List.getD_eq_getElem?_getD, List.getElem?_eq_getElem (by omega)]
        exact List.getElem_mem _
      have := hwz _ hm
      simp only [List.getD_eq_getElem?_getD] at this ⊢
      simp [Lit.wf, IntKind.min, IntKind.max, IntKind.signed, IntKind.bits] at this
      omega

theorem numbers_any (k : Code) (w : World) (hcode : CodeIn w w.heap.size k.a k.cs) (hlen : k.cs.length ≤ 1048576) (ht : HasPow w) (he : HasErrs w) :
    Calls Tryd.prog 3 #[.slice k.a k.cs.length k.cap] w fun e w' => e = .returned (.bool true) ∧ Below w.heap.size w w' := by
  obtain ⟨n, hn⟩ : ∃ n, n = (Draw.num k.cs (Draw.start k.cs)).1 := ⟨_, rfl⟩
  by_cases h1 : n ≤ -1000000000
  · exact numbers_1 k w hcode hlen n hn h1 ht he
  · by_cases h2 : n < 0
    · exact numbers_2 k w hcode hlen n hn ⟨by omega, h2⟩ ht he
    · by_cases h3 : n < 1000000000
      · exact numbers_3 k w hcode hlen n hn ⟨by omega, h3⟩ ht he
      · by_cases h4 : n ≤ 562949953421311
        · exact numbers_4 k w hcode hlen n hn ⟨by omega, h4⟩ ht he
        · by_cases h5 : n < 72057594037927936
          · exact numbers_5 k w hcode hlen n hn ⟨by omega, h5⟩ ht he
          · exact numbers_6 k w hcode hlen n hn (by omega) ht he

set_option maxRecDepth 100000 in
set_option maxHeartbeats 400000 in
theorem exactNumbers_walk (a : Option Addr) (n cap : Nat) (zs : List Int) (w : World) (hz : Kit.BytesIn w a n cap zs) (hL : laidMetH Tryd.prog Rows.fnNumbersRow.laid w) :
    Calls Tryd.prog 3 #[.slice a n cap] w fun e w' => e = .returned (.bool true) ∧ Below w.heap.size w w' := by
  have hL' : laidMet Tryd.prog Rows.fnNumbersRow.laid w := hL
  have ht : HasPow w := hasPow hL'.tail.tail
  have he : HasErrs w := hasErrs hL'.tail.tail.tail
  clear hL hL'
  by_cases hb : (1048576 : Int) < n
  · clear hz ht he
    go_enter Tryd.func3, Tryd.ntmps3
    go_wp2_with fail
    refine (big_big _ _ _ hb _).mono ?_
    rintro e w0 ⟨rfl, rfl⟩
    go_wp2
    go_ret
    exact ⟨rfl, Below.refl _ _⟩
  · obtain ⟨hl, hcode⟩ := code_of hz
    have h := numbers_any ⟨a, zs.take n, cap⟩ w hcode (by simp only; omega) ht he
    simp only [hl] at h
    exact h

end Go.Proofs.YtbdhhmcebjpgeaaDoor
