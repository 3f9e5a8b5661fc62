/- Contracts (RdI). -/
import Derived.Test.YtemionefggiknaaDoorNmdI
import Derived.Test.YtemionefggiknaaDoorTxtI
import Derived.Test.YtemionefggiknaaDoorRes3
import Derived.Outline
namespace Go.Proofs.YtemionefggiknaaDoor
open Go.RowKit
set_option linter.unusedVariables false

set_option maxHeartbeats 1600000 in
set_option maxRecDepth 100000 in
theorem implReadTree_any (s : ByteArray) (hs : s.size ≤ 1048576) (w : World) (ht : HasNames w) :
    Calls Tryd.prog 11 #[.string s] w (OwnNodesB 35 (Rd.read s) w) := by
  have HN := Lib.hid ht
  clear ht
  go_enter Tryd.func11, Tryd.ntmps11
  go_wp2_with (go_at_call 23; refine (namedNodes_any s hs _ HN.out).mono ?_)
  rintro e w1 ⟨L, hL, hlen, A, c, rfl, ho, hb⟩
  have HL := Lib.hid hL
  have Ho := Lib.hid ho
  have HB := Lib.hid hb
  have hc := own_cap ho
  have HN1 := Lib.hid (HN.out.below hb)
  clear hL ho hb
  have hLn : L.length ≤ 1048576 := by omega
  have Hn := Lib.hid (NdIn.of_own Ho.out)
  rcases hok : Tr.ok L with _ | _
  · have Hres := Lib.hid (show Rd.read s = ([], false) by
      rcases HL.out with h | ⟨_, h⟩
      · exact Rd.read_no1 h.symm hok
      · refine Rd.read_no1 rfl ?_
        cases hk : Tr.ok (Rd.parse s) with
        | false => rfl
        | true => have := (Tr.ok_iff.1 hk).2; omega)
    have Hok := Lib.hid hok
    clear hok
    go_wp2_with fail
    refine (implTreeOk_any _ _ _ L _ Hn.out hLn hc).mono ?_
    rintro e w2 ⟨rfl, hb2⟩
    have HB2 := Lib.hid (HB.out.trans (hb2.mono HB.out.size))
    clear hb2
    rw [Hok.out]
    have hsx := HB2.out.size
    go_wp2
    go_ret2
    exact ⟨none, 0, by rw [Hres.out]; rfl, by rw [Hres.out]; exact own_nil, HB2.out⟩
  · have HX := Lib.hid (show L = Rd.parse s by
      rcases HL.out with h | ⟨h, _⟩
      · exact h
      · have := (Tr.ok_iff.1 hok).2; omega)
    have Hok := Lib.hid hok
    by_cases htx : Tr.txt L = s
    · have Hres := Lib.hid (Rd.read_yes HX.out.symm hok htx)
      have f1 : ((Tr.txt L).toList == s.toList) = true := by rw [ba_eq]; simpa using htx
      clear hok htx
      go_wp2_with fail
      refine (implTreeOk_any _ _ _ L _ Hn.out hLn hc).mono ?_
      rintro e w2 ⟨rfl, hb2⟩
      have HB2 := Lib.hid (HB.out.trans (hb2.mono HB.out.size))
      have Ho2 := Lib.hid (own_below Ho.out hb2)
      have HN2 := Lib.hid (HN1.out.below hb2)
      clear hb2
      have Hn2 := Lib.hid (NdIn.of_own Ho2.out)
      rw [Hok.out]
      go_wp2_with fail
      refine (implTreeText_any _ _ _ L _ Hn2.out hLn hc HN2.out).mono ?_
      rintro e w3 ⟨rfl, hb3⟩
      have HB3 := Lib.hid (HB2.out.trans (hb3.mono HB2.out.size))
      have Ho3 := Lib.hid (own_below Ho2.out hb3)
      clear hb3
      go_wp2
      go_ret2
      exact ⟨_, _, by rw [Hres.out]; rfl, by rw [Hres.out]; exact Ho3.out, HB3.out⟩
    · have Hres := Lib.hid (Rd.read_no2 HX.out.symm htx)
      have f1 : ((Tr.txt L).toList == s.toList) = false := by rw [ba_eq]; simpa using htx
      clear hok htx
      go_wp2_with fail
      refine (implTreeOk_any _ _ _ L _ Hn.out hLn hc).mono ?_
      rintro e w2 ⟨rfl, hb2⟩
      have HB2 := Lib.hid (HB.out.trans (hb2.mono HB.out.size))
      have Ho2 := Lib.hid (own_below Ho.out hb2)
      have HN2 := Lib.hid (HN1.out.below hb2)
      clear hb2
      have Hn2 := Lib.hid (NdIn.of_own Ho2.out)
      rw [Hok.out]
      go_wp2_with fail
      refine (implTreeText_any _ _ _ L _ Hn2.out hLn hc HN2.out).mono ?_
      rintro e w3 ⟨rfl, hb3⟩
      have HB3 := Lib.hid (HB2.out.trans (hb3.mono HB2.out.size))
      clear hb3
      go_wp2
      go_ret2
      exact ⟨none, 0, by rw [Hres.out]; rfl, by rw [Hres.out]; exact own_nil, HB3.out⟩

end Go.Proofs.YtemionefggiknaaDoor
