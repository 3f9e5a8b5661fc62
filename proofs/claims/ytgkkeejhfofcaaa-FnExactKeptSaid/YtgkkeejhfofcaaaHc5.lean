/- Texts of one claim laid into one file, in build order: PostS. -/
import Derived.Test.YtgkkeejhfofcaaaHc2
import Derived.Test.YtgkkeejhfofcaaaHc4
import Derived.Outline
/- Contracts (PostS). -/
namespace Go.Proofs.Ytgkkeejhfofcaaa
open Go.RowKit
set_option linter.unusedVariables false

/-- kids of i, row of numbers -/
def Tr.kidsR (xs : Tr) (i : Nat) : List Nat := Tr.kidsTo xs i (Tr.endN xs i)
theorem info_intP : (Try.prog.info? 3).map (fun i => (i.zero, i.size, i.bytes)) = some (some (.int .i64 0), 1, 8) := by kernel_rfl
def Zs.up (l : List Nat) : List Int := l.map fun (m : Nat) => (m : Int)
theorem Zs.up_length (l : List Nat) : (Zs.up l).length = l.length := by simp [Zs.up]
theorem Zs.up_append (a b : List Nat) : Zs.up (a ++ b) = Zs.up a ++ Zs.up b := by simp [Zs.up]
theorem Zs.up_at (l : List Nat) (k : Nat) (h : k < l.length) : Zs.at (Zs.up l) k = (l[k] : Int) := by simp [Zs.at, Zs.up, List.getD_eq_getElem?_getD, h]
theorem flat_take (l : List Nat) (g : Nat → List Nat) (t : Nat) (h : t < l.length) : (l.take (t + 1)).flatMap g = (l.take t).flatMap g ++ g l[t] := by
  rw [List.take_succ_eq_append_getElem h, List.flatMap_append]
  simp
theorem flat_len (l : List Nat) (g : Nat → List Nat) (t : Nat) : ((l.take t).flatMap g).length ≤ (l.flatMap g).length := by
  have : l.flatMap g = (l.take t).flatMap g ++ (l.drop t).flatMap g := by rw [← List.flatMap_append, List.take_append_drop]
  rw [this, List.length_append]
  omega

set_option maxHeartbeats 1600000 in
set_option maxRecDepth 100000 in
theorem l6Post_body (A : Option Addr) (n c : Nat) (xs : Tr) (hok : Tr.ok xs = true) (hn : n ≤ 1048576) (i : Nat) (hi' : i < n) (g : Nat → List Nat)
    (hg : ∀ (t : Nat) (ht : t < (Tr.kidsR xs i).length) (w : World), NdIn w w.heap.size A n xs → Calls Try.prog 139 #[.slice A n c, .int .i64 (Tr.kidsR xs i)[t]] w (OwnInts 3 (Zs.up (g (Tr.kidsR xs i)[t])) w))
    (hpos : ∀ (t : Nat) (ht : t < (Tr.kidsR xs i).length), 0 < (g (Tr.kidsR xs i)[t]).length) (hlen : ((Tr.kidsR xs i).flatMap g).length ≤ 24)
    (w : World) (h : NdIn w w.heap.size A n xs) :
    Calls Try.prog 139 #[.slice A n c, .int .i64 i] w (OwnInts 3 (Zs.up ((Tr.kidsR xs i).flatMap g ++ [i])) w) := by
  have H := Lib.hid h
  have HL := Lib.hid H.out.1
  have HG := Lib.hid hg
  have HP := Lib.hid hpos
  clear h hg hpos
  obtain ⟨i0, hi, hz0, hz1, hz2⟩ := info_parts info_intP
  have Hi := Lib.hid hi
  clear hi
  have hki : Tr.kidsI xs (i : Int) = Zs.up (Tr.kidsR xs i) := by
    rw [Tr.kidsI_yes (Tr.has_iff.2 ⟨hok, by omega, by rw [HL.out]; omega⟩)]
    rfl
  obtain ⟨K, hK⟩ : ∃ K, K = Tr.kidsR xs i := ⟨_, rfl⟩
  have HKI := Lib.hid (hki.trans (by rw [← hK]))
  rw [← hK] at HG HP hlen ⊢
  have hKl : K.length ≤ 1048576 := by
    have h1 := Tr.kidsTo_le xs i (Tr.endN xs i)
    have h2 := (Tr.endN_dn hok (i := i) (by rw [HL.out]; exact hi')).2.1
    rw [hK, Tr.kidsR]
    rw [HL.out] at h2
    omega
  clear hki hok hK
  have HFL := Lib.hid (flat_len K g)
  have HFT := Lib.hid (flat_take K g)
  have Ho := Lib.hid (World.ownsRow_lit (base := w.heap.size) (e := 3) (size := 1) w #[] 0 (Nat.le_refl _) (Nat.zero_le _) rfl)
  have HB := Lib.hid ((Below.refl w.heap.size w).alloc (Nat.le_refl _) (.cells #[] 3))
  have H1 := Lib.hid ((H.out.below HB.out).more HB.out.size)
  go_enter Try.func139, Try.ntmps139
  go_wp2_with fail
  refine (specKidsOf_any _ _ _ xs _ _ H1.out hn).mono ?_
  rintro e w1 ⟨Ak, ck, rfl, hk, hb⟩
  rw [HKI.out] at hk ⊢
  have Ho := Lib.hid (own_below Ho.out hb)
  have HB := Lib.hid (HB.out.trans (hb.mono HB.out.size))
  have hsz : (w.alloc (.cells #[] 3)).heap.size = w.heap.size + 1 := by simp
  have hap : Apart (.slice Ak (Zs.up K).length ck) (.slice (some ⟨w.heap.size, 0, none⟩) 0 0) := by
    rcases hq : (Value.slice Ak (Zs.up K).length ck).ownBlock with _ | gk
    · exact .inl hq
    · refine .inr ?_
      have := (hk.lt gk hq).1
      rw [hq]
      show some gk ≠ some w.heap.size
      intro e
      injection e
      omega
  have Hk := Lib.hid (own_base hk (show w.heap.size ≤ (w.alloc (.cells #[] 3)).heap.size by omega))
  have Hap := Lib.hid hap
  clear hb hk hap hsz H1
  rw [Zs.up_length] at Hk Hap ⊢
  go_wp2
  go_loopw [7, 5] (fun kv ov wr => ∃ t : Nat, t ≤ K.length ∧ kv = .int .i64 t ∧ wr.ownsRow w.heap.size 3 1 ov (Zs.up ((K.take t).flatMap g)).length (ints (Zs.up ((K.take t).flatMap g))) ∧ wr.ownsRow w.heap.size 3 1 (.slice Ak K.length ck) K.length (ints (Zs.up K)) ∧ Apart (.slice Ak K.length ck) ov ∧ Below w.heap.size w wr) (fun k _ _ => K.length - (intOf k).toNat)
  case atStart => exact ⟨0, Nat.zero_le _, rfl, Ho.out, Hk.out, Hap.out, HB.out⟩
  case round =>
    clear Ho HB Hk Hap
    obtain ⟨t, ht, rfl, hown, hkid, hap, hB⟩ := hrel
    have Ho := Lib.hid hown
    have HB := Lib.hid hB
    have Hk := Lib.hid hkid
    have Hap := Lib.hid hap
    clear hown hB hkid hap
    have hfl := HFL.out t
    by_cases hlt : t < K.length
    · obtain ⟨gk, rfl, _, _⟩ := own_form Hk.out (by omega)
      have c1 := own_int Hk.out (k := t) (by rw [Zs.up_length]; exact hlt)
      rw [Zs.up_at K t hlt] at c1
      have hf1 := HFT.out t hlt
      have hfl1 := HFL.out (t + 1)
      have H1 := Lib.hid ((H.out.below HB.out).more HB.out.size)
      have hg1 := HP.out t hlt
      have t0 : (0 : Int) ≤ (t : Int) := by omega
      have t1 : (t : Int) < (K.length : Int) := by omega
      rw [hf1, List.length_append] at hfl1
      have Hf1 := Lib.hid hf1
      clear hf1
      go_wp2_with fail
      refine (HG.out t hlt wr H1.out).mono ?_
      rintro e w2 ⟨A2, c2, rfl, ho2, hb⟩
      have Ho := Lib.hid (own_below Ho.out hb)
      have Hk := Lib.hid (own_below Hk.out hb)
      have HB := Lib.hid (HB.out.trans (hb.mono HB.out.size))
      have I2 := Lib.hid (IntIn.of_own ho2)
      have hsx := HB.out.size
      clear ho2 hb c1
      go_wp2_with (at_builtin; go_loud (refine append_ints w2 rfl _ _ 29 rfl w.heap.size 3 i0 Try.underlying29 Hi.out hz0 hz1 hz2 u5 (Zs.up ((K.take t).flatMap g)).length (Zs.up ((K.take t).flatMap g)) rfl Ho.out rfl (Zs.up (g K[t])) A2 c2 rfl I2.out (by rw [Zs.up_length]; exact hg1) (by rw [Zs.up_length, Zs.up_length]; omega) hsx ?_); intro v' w3 hown hgrow hwhere)
      have hb3 := Below.grown HB.out hgrow hsx (fun k hk => (Ho.out.lt k hk).1)
      have Hk3 := Lib.hid (World.ownsRow.kept Hk.out hgrow Hap.out)
      have Hap3 := Lib.hid (Hap.out.grew Hk.out hwhere)
      rw [← Zs.up_append, ← Hf1.out] at hown
      go_roundw
      case rel => exact ⟨t + 1, by omega, by go_num, hown, Hk3.out, Hap3.out, hb3⟩
      case measure => simp [intOf]; omega
    · obtain rfl : t = K.length := by omega
      have Ht := Lib.hid (show (K.take K.length).flatMap g = K.flatMap g by rw [List.take_length])
      rw [Ht.out] at Ho hfl
      have hsx := HB.out.size
      go_wp2_with (at_builtin; go_loud (refine append_int_at wr rfl _ _ 29 rfl w.heap.size 3 i0 Try.underlying29 Hi.out hz0 hz1 hz2 u5 (Zs.up (K.flatMap g)).length (Zs.up (K.flatMap g)) rfl Ho.out rfl (i : Int) rfl (by rw [Zs.up_length]; omega) hsx ?_); intro v' w3 hown hgrow hwhere)
      have hb3 := Kit.below_own HB.out Ho.out hgrow
      rw [show Zs.up (K.flatMap g) ++ [(i : Int)] = Zs.up (K.flatMap g ++ [i]) by rw [Zs.up_append]; rfl] at hown
      obtain ⟨A3, c3, rfl⟩ := own_slice hown
      go_ret
      exact ⟨A3, c3, rfl, hown, hb3⟩

theorem Tr.postF_ne (xs : Tr) (f i : Nat) : 0 < (Tr.postF xs f i).length := by
  cases f <;> simp [Tr.postF]
theorem Tr.kids_sub {xs : Tr} (hok : Tr.ok xs = true) {i : Nat} (hi : i < xs.length) : ∀ j ∈ Tr.kidsR xs i, i < j ∧ j < Tr.endN xs i := by
  intro j hj
  unfold Tr.kidsR Tr.kidsTo at hj
  simp only [List.mem_filter, List.mem_range, Bool.and_eq_true, decide_eq_true_eq] at hj
  omega
theorem l6Post_any (A : Option Addr) (n c : Nat) (xs : Tr) (hok : Tr.ok xs = true) (hxl : xs.length = n) : ∀ (f i : Nat), i < n → Tr.endN xs i - i ≤ f + 1 → ∀ (w : World), NdIn w w.heap.size A n xs →
    Calls Try.prog 139 #[.slice A n c, .int .i64 i] w (OwnInts 3 (Zs.up (Tr.postF xs f i)) w) := by
  have hle := (Tr.ok_iff.1 hok).2
  intro f
  induction f with
  | zero =>
    intro i hi hf w h
    have a := Tr.endN_dn hok (i := i) (by omega)
    have hk : Tr.kidsR xs i = [] := by
      unfold Tr.kidsR
      rw [show Tr.endN xs i = i + 1 by omega, Tr.kidsTo_start]
    have := l6Post_body A n c xs hok (by omega) i hi (fun _ => []) (by intro t ht; rw [hk] at ht; simp at ht) (by intro t ht; rw [hk] at ht; simp at ht) (by rw [hk]; simp) w h
    rw [hk] at this
    exact this
  | succ f ih =>
    intro i hi hf w h
    have hsp := (Tr.postF_spec hok (f + 1) i (by omega) hf).1
    have a := Tr.endN_dn hok (i := i) (by omega)
    have hp : Tr.postF xs (f + 1) i = (Tr.kidsR xs i).flatMap (Tr.postF xs f) ++ [i] := rfl
    rw [hp] at hsp ⊢
    rw [List.length_append] at hsp
    refine l6Post_body A n c xs hok (by omega) i hi (Tr.postF xs f) (fun t ht w' h' => ?_) (fun t ht => Tr.postF_ne _ _ _) (by simp only [List.length_singleton] at hsp; omega) w h
    have hm := Tr.kids_sub hok (i := i) (by omega) _ (List.getElem_mem ht)
    have hs := Tr.endN_in hok (i := i) (by omega) hm.1 hm.2
    exact ih _ (by omega) (by omega) w' h'

set_option maxHeartbeats 800000 in
theorem specPostOrder_any (A : Option Addr) (n c : Nat) (xs : Tr) (w : World) (h : NdIn w w.heap.size A n xs) (hn : n ≤ 1048576) :
    Calls Try.prog 88 #[.slice A n c] w (OwnInts 3 (Zs.up (Tr.post xs)) w) := by
  have H := Lib.hid h
  clear h
  have HL := Lib.hid H.out.1
  rcases hok : Tr.ok xs with _ | _
  · have Hf := Lib.hid (show Zs.up (Tr.post xs) = [] by unfold Tr.post; rw [hok]; rfl)
    have Hok := Lib.hid hok
    clear hok
    go_enter Try.func88, Try.ntmps88
    go_wp2_with fail
    refine (specTreeOk_any _ _ _ xs _ H.out hn).mono ?_
    rintro e w1 ⟨rfl, hd⟩
    have HB := Lib.hid (hd.toBelow (B := w.heap.size))
    clear hd
    rw [Hok.out]
    have hsx := HB.out.size
    go_wp2
    go_ret
    exact ⟨_, _, by rw [Hf.out]; rfl, by rw [Hf.out]; exact World.ownsRow_lit w1 #[] 0 hsx (Nat.zero_le _) rfl, HB.out.alloc hsx _⟩
  · have hle := (Tr.ok_iff.1 hok).2
    rw [HL.out] at hle
    have Hf := Lib.hid (show Tr.post xs = Tr.postF xs xs.length 0 by unfold Tr.post; rw [hok]; rfl)
    have Hc := Lib.hid (fun w h => l6Post_any A n c xs hok HL.out xs.length 0 (by omega) (by rw [Tr.endN_zero hok]; omega) w h)
    have Hok := Lib.hid hok
    clear hok
    go_enter Try.func88, Try.ntmps88
    go_wp2_with fail
    refine (specTreeOk_any _ _ _ xs _ H.out hn).mono ?_
    rintro e w1 ⟨rfl, hd⟩
    have HB := Lib.hid (hd.toBelow (B := w.heap.size))
    have H1 := Lib.hid (H.out.to_drawn hd)
    clear hd
    rw [Hok.out]
    go_wp2_with fail
    refine (Hc.out w1 H1.out).mono ?_
    rintro e w2 ⟨A2, c2, rfl, ho, hb⟩
    have hsx := HB.out.size
    have HB := Lib.hid (HB.out.trans (hb.mono hsx))
    have Ho := Lib.hid (own_base ho hsx)
    clear hb ho
    go_wp2
    go_ret
    exact ⟨A2, c2, by rw [Hf.out]; rfl, by rw [Hf.out]; exact Ho.out, HB.out⟩

end Go.Proofs.Ytgkkeejhfofcaaa
