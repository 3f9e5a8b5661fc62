/- Texts of one claim laid into one file, in build order: Three, UnitS, SideI. -/
import Derived.Test.YtgkkeejhfofcaaaHd1
import Derived.Test.YtgkkeejhfofcaaaHd13
import Derived.Test.YtgkkeejhfofcaaaHd14
import Derived.Test.YtgkkeejhfofcaaaHd16
import Derived.Test.YtgkkeejhfofcaaaHd2
import Derived.Test.YtgkkeejhfofcaaaHd3
import Derived.Test.YtgkkeejhfofcaaaHd7
import Derived.Test.YtgkkeejhfofcaaaHd9
import Derived.Deep.RegionLaw
import Derived.Outline
/- Contracts (Three). -/
namespace Go.Proofs.Ytgkkeejhfofcaaa
open Go.RowKit
set_option linter.unusedVariables false

theorem Apart.symm {a b : Value} (h : Apart a b) : Apart b a := by
  rcases hb : b.ownBlock with _ | g
  · exact .inl hb
  · refine .inr fun e => ?_
    rcases h with h | h
    · rw [hb, h] at e; cases e
    · exact h e.symm
/-- a struct of three rows of ints that a call builds: in block g; the rows behind it, apart from one another -/
def ThreeAt (w0 : World) (g n0 n1 n2 : Nat) (L0 L1 L2 : List Int) (v0 v1 v2 : Value) (w : World) : Prop :=
  Box3 w g v0 v1 v2 ∧ (∀ off, w.frozen? ⟨g, off, none⟩ = false) ∧ w.ownsRow (g + 1) 3 1 v0 n0 (ints L0) ∧ w.ownsRow (g + 1) 3 1 v1 n1 (ints L1) ∧ w.ownsRow (g + 1) 3 1 v2 n2 (ints L2) ∧
  Apart v0 v1 ∧ Apart v0 v2 ∧ Apart v1 v2 ∧ Below w0.heap.size w0 w ∧ g < w.heap.size
/-- the struct as it is made: three empty rows -/
theorem Three.new (w0 : World) (e : TypeId) : ThreeAt w0 w0.heap.size 0 0 0 [] [] [] (.slice none 0 0) (.slice none 0 0) (.slice none 0 0) (w0.alloc (.cells #[.slice none 0 0, .slice none 0 0, .slice none 0 0] e)) :=
  ⟨Box3.made _ _ _ _ _, Box3.free _ _ _ _ _, own_nil, own_nil, own_nil, .inl rfl, .inl rfl, .inl rfl, (Below.refl _ _).alloc (Nat.le_refl _) _, by simp⟩
/-- its three rows, as they lie behind a store of it into another struct -/
theorem Three.out {w0 w : World} {g n0 n1 n2 s : Nat} {L0 L1 L2 : List Int} {v0 v1 v2 u0 u1 u2 : Value} (h : ThreeAt w0 g n0 n1 n2 L0 L1 L2 v0 v1 v2 w) (hs : s ≤ g) {base : Nat} (hb : base ≤ g) :
    let W := ((w.setCell ⟨s, 0, none⟩ u0).setCell ⟨s, 1, none⟩ u1).setCell ⟨s, 2, none⟩ u2
    W.ownsRow base 3 1 v0 n0 (ints L0) ∧ W.ownsRow base 3 1 v1 n1 (ints L1) ∧ W.ownsRow base 3 1 v2 n2 (ints L2) ∧ Apart v0 v1 ∧ Apart v0 v2 ∧ Apart v1 v2 := by
  obtain ⟨hx, hf, o0, o1, o2, a01, a02, a12, hB, hgl⟩ := h
  have keep : ∀ (v : Value) (n : Nat) (ys : List Value), w.ownsRow (g + 1) 3 1 v n ys → (((w.setCell ⟨s, 0, none⟩ u0).setCell ⟨s, 1, none⟩ u1).setCell ⟨s, 2, none⟩ u2).ownsRow base 3 1 v n ys := fun _ _ _ k =>
    own_base (own_grown (own_grown (own_grown k (Kit.grown_set _ _ _ _) (fun b hb => by injection hb with hb; omega)) (Kit.grown_set _ _ _ _) (fun b hb => by injection hb with hb; omega)) (Kit.grown_set _ _ _ _) (fun b hb => by injection hb with hb; omega)) (by omega)
  exact ⟨keep _ _ _ o0, keep _ _ _ o1, keep _ _ _ o2, a01, a02, a12⟩

end Go.Proofs.Ytgkkeejhfofcaaa

/- Contracts (UnitS). -/
namespace Go.Proofs.Ytgkkeejhfofcaaa
open Go.RowKit
set_option linter.unusedVariables false

def Co.urel (j : Nat) : List Int := (List.range j).map fun p => if p / 6 = p % 6 then 0 else 1
def Co.unit : Co := ⟨List.replicate 6 1, List.replicate 6 1, Co.urel 36⟩
theorem Co.urel_length (j : Nat) : (Co.urel j).length = j := by simp [Co.urel]
/-- the answer is a cost of the call's own: three rows apart -/
def OwnCo (k : Co) (w : World) (e : Ending) (w' : World) : Prop :=
  ∃ A0 A1 A2 c0 c1 c2, e = .returned (.agg #[.slice A0 k.d.length c0, .slice A1 k.i.length c1, .slice A2 k.r.length c2]) ∧
    w'.ownsRow w.heap.size 3 1 (.slice A0 k.d.length c0) k.d.length (ints k.d) ∧ w'.ownsRow w.heap.size 3 1 (.slice A1 k.i.length c1) k.i.length (ints k.i) ∧ w'.ownsRow w.heap.size 3 1 (.slice A2 k.r.length c2) k.r.length (ints k.r) ∧
    Apart (.slice A0 k.d.length c0) (.slice A1 k.i.length c1) ∧ Apart (.slice A0 k.d.length c0) (.slice A2 k.r.length c2) ∧ Apart (.slice A1 k.i.length c1) (.slice A2 k.r.length c2) ∧ Below w.heap.size w w'
theorem results_cell1 {fn : Func} {p : Tmp} {ty : TypeId} (h : fn.results = #[.cell p ty]) (tmps : Array Value) (P : Program) (w : World) :
    (results fn tmps).run P w = ((asAddr (tmps.getD p undef)).run P w).andThen fun a w₁ => (loadVar ty a).run P w₁ := by
  simp only [results, h]
  simp [Sem.run_bind]
end Go.Proofs.Ytgkkeejhfofcaaa

/- Contracts (SideI). -/
namespace Go.Proofs.Ytgkkeejhfofcaaa
open Go.RowKit
set_option linter.unusedVariables false

/-- out = append(out, x) in a region that draws its order, out a row of ints of the call's own -/
theorem step_append_int {P : Program} {ops : Array Oper} {o : Oper} {a : Act} (w : World) {K : Act → World → Prop} {Q : Exit → Act → World → Prop} {E : Prop} (hgd : o.guard = none) (s x : Operand) (t : TypeId)
    (ho : o.op = .call { callee := .builtin .append, args := #[s, x], argTypes := #[t, t] })
    (base : Nat) (e : TypeId) (i : TypeInfo) (ht : P.underlying t = some (.slice e)) (hi : P.info? e = some i) (hz : i.zero = some (.int .i64 0))
    (hsize : i.size = 1) (hby : i.bytes = 8) (v : Value) (n : Nat) (l : List Int) (hs : a.eval s = v) (hown : w.ownsRow base e 1 v n (ints l)) (hn : n = l.length)
    (b : Int) (hx : a.eval x = .slice (some ⟨w.heap.size, 0, none⟩) 1 1)
    (N : Nat) (hN : N = l.length + 1) (h63 : l.length + 1 ≤ 1073741824) (hbase : base ≤ w.heap.size)
    (h : ∀ v' w', w'.ownsRow base e 1 v' N (ints (l ++ [b])) → (w.alloc (.cells #[.int .i64 b] e)).grownBy w' v.ownBlock → K (a.put o.dst v') w') :
    if Region.wanted o (yielded ops a.tmps) = true then Oper.wp P o a (w.alloc (.cells #[.int .i64 b] e)) K Q else E := by
  have hw : Region.wanted o (yielded ops a.tmps) = true := by simp [Region.wanted, hgd]
  rw [if_pos hw]
  subst hn
  subst hN
  refine wp_append_own _ s x t ho base e i (.int .i64 0) 1 8 ht hi hz hsize hby rfl (by decide) v l.length (ints l) hs (hown.alloc _) ⟨w.heap.size, 0, none⟩ 1 1 [.int .i64 b] hx rfl ?_ ?_ ?_ ?_ ?_ ?_
  · intro j u hj
    have hj0 : j = 0 := by
      have := (List.getElem?_eq_some_iff.1 hj).1
      simpa using this
    subst hj0
    simp at hj
    subst hj
    simp [Addr.add]
  · intro u hu; simp at hu; subst hu; rfl
  · unfold maxLen; omega
  · omega
  · simp; omega
  · intro v' w' h2 h3 _
    refine h v' w' ?_ h3
    rw [ints_append]
    exact h2
/-- a struct of three rows in block g, the first of which grows in blocks from b0 on -/
structure SdA (g b0 : Nat) (v1 v2 : Value) (L : List Int) (v0 : Value) (w2 w3 wr : World) : Prop where
  c0 : wr.cell? ⟨g, 0, none⟩ = some v0
  c1 : wr.cell? ⟨g, 1, none⟩ = some v1
  c2 : wr.cell? ⟨g, 2, none⟩ = some v2
  fz : ∀ off, wr.frozen? ⟨g, off, none⟩ = false
  row : wr.ownsRow b0 3 1 v0 L.length (ints L)
  kb : ∀ p : Addr, p.block < b0 → p.block ≠ g → wr.cell? p = w3.cell? p
  bl : Below g w2 wr
  sz : b0 ≤ wr.heap.size
theorem SdA.drew {g b0 : Nat} {v1 v2 v0 : Value} {L : List Int} {w2 w3 wr : World} (h : SdA g b0 v1 v2 L v0 w2 w3 wr) : SdA g b0 v1 v2 L v0 w2 w3 wr.drew :=
  ⟨h.c0, h.c1, h.c2, h.fz, own_drawn h.row (Drawn.refl _).drew, h.kb, Drawn.below h.bl (Drawn.refl _).drew, h.sz⟩
theorem SdA.mid {g b0 : Nat} {v1 v2 v0 : Value} {L : List Int} {w2 w3 wr w' : World} {o : Obj} (hg : g < b0) (h : SdA g b0 v1 v2 L v0 w2 w3 wr) (hgrow : (wr.alloc o).grownBy w' v0.ownBlock) :
    Below b0 wr w' := by
  have ha : Below b0 wr (wr.alloc o) := (Below.refl _ _).alloc h.sz o
  refine ha.grown hgrow ?_ (fun k hk => (h.row.lt k hk).1)
  have : (wr.alloc o).heap.size = wr.heap.size + 1 := by simp
  have := h.sz
  omega
theorem SdA.push {g b0 n : Nat} {v1 v2 v0 v' : Value} {L L' : List Int} {w2 w3 wr w' : World} (hg : g < b0) (h : SdA g b0 v1 v2 L v0 w2 w3 wr) (hb : Below b0 wr w') (hown : w'.ownsRow b0 3 1 v' n (ints L')) (hn : n = L'.length) :
    SdA g b0 v1 v2 L' v' w2 w3 (w'.setCell ⟨g, 0, none⟩ v') := by
  subst hn
  refine ⟨?_, ?_, ?_, fun off => ?_, own_grown hown (Kit.grown_set w' g _ _) (fun b hb => by injection hb with hb; omega), fun p h1 h2 => ?_, (h.bl.trans (hb.mono (by omega))).setCell (Nat.le_refl _) _, ?_⟩
  · exact World.cell?_setCell_same' _ _ _ (by rw [hb.cell (p := ⟨g, 0, none⟩) hg, h.c0]; rfl)
  · rw [World.cell?_setCell_other _ _ _ _ (fun e => by injection e with e1 e2; omega), hb.cell (p := ⟨g, 1, none⟩) hg]; exact h.c1
  · rw [World.cell?_setCell_other _ _ _ _ (fun e => by injection e with e1 e2; omega), hb.cell (p := ⟨g, 2, none⟩) hg]; exact h.c2
  · rw [World.frozen?_setCell]; exact free_below hb hg h.fz off
  · rw [World.cell?_setCell_other _ _ _ _ (fun e => h2 (by rw [← e])), hb.cell h1]; exact h.kb p h1 h2
  · have := hb.size
    have := h.sz
    simp
    omega
/-- one side: labels, first leaves, key roots -/
def OwnSide (xs : Tr) (w : World) (e : Ending) (w' : World) : Prop :=
  ∃ A0 A1 A2 c0 c1 c2, e = .returned (.agg #[.slice A0 xs.length c0, .slice A1 xs.length c1, .slice A2 (Tr.krs xs).length c2]) ∧
    w'.ownsRow w.heap.size 3 1 (.slice A0 xs.length c0) xs.length (ints (Tr.lab xs)) ∧ w'.ownsRow w.heap.size 3 1 (.slice A1 xs.length c1) xs.length (ints (Zs.up (Tr.lfs xs))) ∧
    w'.ownsRow w.heap.size 3 1 (.slice A2 (Tr.krs xs).length c2) (Tr.krs xs).length (ints (Zs.up (Tr.krs xs))) ∧ Below w.heap.size w w'

set_option maxHeartbeats 1600000 in
set_option maxRecDepth 100000 in
theorem sideOf_any (A : Option Addr) (n c : Nat) (xs : Tr) (w : World) (h : NdIn w w.heap.size A n xs) (hnc : n ≤ c) (hok : Tr.ok xs = true) :
    Calls Try.prog 151 #[.slice A n c] w (OwnSide xs w) := by
  have hnl : xs.length = n := h.1
  obtain ⟨hn1, hn24⟩ := Tr.len24 hok
  have h0 : (Below w.heap.size w (w.alloc (.cells #[.slice none 0 0, .slice none 0 0, .slice none 0 0] 87))) := (Below.refl _ _).alloc (Nat.le_refl _) _
  have H := Lib.hid h
  have H0 := Lib.hid (h.to_below h0)
  have HK := Lib.hid hok
  clear h hok h0
  go_enter Try.func151, Try.ntmps151
  go_wp2_with fail
  refine (implLeftLeaf_any _ _ _ xs _ H0.out (by omega) hnc).mono ?_
  rintro e w1 ⟨A1, c1, rfl, o1, b1⟩
  have H1 := Lib.hid (H0.out.to_below b1)
  have O1 := Lib.hid o1
  have B1 := Lib.hid b1
  clear o1 b1
  go_wp2_with fail
  refine (implKeyRoots_any _ _ _ xs _ H1.out (by omega) hnc).mono ?_
  rintro e w2 ⟨A2, c2, rfl, o2, b2⟩
  have H2 := Lib.hid (H1.out.to_below b2)
  have O2 := Lib.hid o2
  have B2 := Lib.hid b2
  clear o2 b2
  go_wp2_with fail
  obtain ⟨g, hg⟩ : ∃ g, g = w2.heap.size := ⟨_, rfl⟩
  obtain ⟨ws, hws⟩ : ∃ ws, ws = w2.alloc (.cells #[.slice none 0 0, .slice A1 (Zs.up (Tr.lfs xs)).length c1, .slice A2 (Zs.up (Tr.krs xs)).length c2] 87) := ⟨_, rfl⟩
  have bs : Below g w2 ws := by rw [hws]; exact (Below.refl _ _).alloc (by omega) _
  have zs : ws.heap.size = g + 1 := by rw [hws, hg]; simp
  have q0 : ws.cell? ⟨g, 0, none⟩ = some (.slice none 0 0) := by rw [hws, hg]; simp
  have q1 : ws.cell? ⟨g, 1, none⟩ = some (.slice A1 (Zs.up (Tr.lfs xs)).length c1) := by rw [hws, hg]; simp
  have q2 : ws.cell? ⟨g, 2, none⟩ = some (.slice A2 (Zs.up (Tr.krs xs)).length c2) := by rw [hws, hg]; simp
  have qf : ∀ off, ws.frozen? ⟨g, off, none⟩ = false := fun off => by rw [hws, hg]; simp
  rw [← hws, ← hg]
  have HSN := Lib.hid (H2.out.to_below (w' := ws) (by rw [hg] at bs; exact bs))
  have hpl : (Zs.up (Tr.post xs)).length = xs.length := by rw [Zs.up_length, Tr.post_length HK.out]
  refine (implPostOrder_any _ _ _ xs _ HSN.out (by omega) hnc).mono ?_
  rintro e w3 ⟨A3, c3, rfl, o3, b3⟩
  have I3 := Lib.hid (IntIn.of_own o3)
  obtain ⟨b0, hb0⟩ : ∃ b0, b0 = w3.heap.size := ⟨_, rfl⟩
  have hgb : g < b0 := by have := b3.size; omega
  have st : SdA g b0 (.slice A1 (Zs.up (Tr.lfs xs)).length c1) (.slice A2 (Zs.up (Tr.krs xs)).length c2) [] (.slice none 0 0) w2 w3 w3 := by
    refine ⟨(b3.cell (p := ⟨g, 0, none⟩) (by simp; omega)).trans q0, (b3.cell (p := ⟨g, 1, none⟩) (by simp; omega)).trans q1, (b3.cell (p := ⟨g, 2, none⟩) (by simp; omega)).trans q2, fun off => free_below b3 (by omega) qf off, own_nil, fun _ _ _ => rfl, bs.trans (b3.mono (by omega)), by omega⟩
  rw [← hb0] at I3
  rw [hpl] at I3 ⊢
  have ST := Lib.hid st
  have HG := Lib.hid hg
  have HB0 := Lib.hid hb0
  have hp3 : ∀ k, k < xs.length → ∃ i : Nat, i < xs.length ∧ Zs.at (Zs.up (Tr.post xs)) k = (i : Int) ∧ Tr.xa xs k = Tr.l xs i := fun k hk => by
    obtain ⟨i, h1, _, _, h4, h5⟩ := Tr.la_at HK.out hk
    have hk2 : k < (Tr.post xs).length := by rw [Tr.post_length HK.out]; exact hk
    refine ⟨i, h1, ?_, h4⟩
    rw [Zs.up_at _ _ hk2]
    rw [List.getElem?_eq_getElem hk2] at h5
    injection h5 with h5
    rw [h5]
  have HP3 := Lib.hid hp3
  have hpos : ∃ a3, A3 = some a3 ∧ a3.block < b0 ∧ a3.block ≠ g := by
    obtain ⟨a3, e1, e2⟩ := I3.out.2.1 (by omega)
    obtain ⟨g3, f1, f2, _⟩ := own_form o3 (by rw [hpl]; omega)
    refine ⟨a3, e1, e2, ?_⟩
    rw [e1] at f1
    injection f1 with f1
    rw [f1]
    show g3 ≠ g
    omega
  obtain ⟨a3, rfl, ha3, ha4⟩ := hpos
  have LL := Lib.hid (Tr.lab_len HK.out)
  obtain ⟨i0, hi0, hz0, hz1, hz2⟩ := info_parts info_intZ
  have Hi := Lib.hid hi0
  clear st hg hb0 hp3 o3 b3 q0 q1 q2 qf bs hws hi0 zs hpl
  go_wp2
  go_loopw [14] (fun kv wr => ∃ (k : Nat) (v0 : Value), k ≤ xs.length ∧ kv = .int .i64 k ∧ SdA g b0 (.slice A1 (Zs.up (Tr.lfs xs)).length c1) (.slice A2 (Zs.up (Tr.krs xs)).length c2) ((Tr.lab xs).take k) v0 w2 w3 wr) (fun k _ => xs.length - (intOf k).toNat)
  case atStart => exact ⟨0, _, by omega, rfl, by rw [List.take_zero]; exact ST.out⟩
  case round =>
    clear ST
    obtain ⟨k, v0, hk, rfl, hs⟩ := hrel
    have SD := Lib.hid hs
    clear hs
    by_cases hlt : k < xs.length
    · obtain ⟨i, r1, r2, r3⟩ := HP3.out k hlt
      have cp := (SD.out.kb (a3.add k) (by rw [block_of_add]; exact ha3) (by rw [block_of_add]; exact ha4)).trans (I3.out.here hlt)
      rw [r2] at cp
      obtain ⟨ad, rfl, _, hl, hd⟩ := (H2.out.below (by rw [← HG.out]; exact SD.out.bl)).at_ (k := i) (by omega)
      have c0 := SD.out.c0
      have b1 : (0 : Int) ≤ (i : Int) := by omega
      have b2 : (i : Int) < (n : Int) := by omega
      have k1 : (0 : Int) ≤ (k : Int) := by omega
      have k2 : (k : Int) < (xs.length : Int) := by omega
      have ht : (Tr.lab xs).take k ++ [Tr.l xs i] = (Tr.lab xs).take (k + 1) := by
        rw [List.take_succ_eq_append_getElem (by rw [LL.out]; exact hlt), ← r3]
        congr 2
        unfold Tr.xa
        rw [List.getD_eq_getElem?_getD, List.getElem?_eq_getElem (by rw [LL.out]; exact hlt)]
        rfl
      have HT := Lib.hid ht
      have htl : ((Tr.lab xs).take k).length = k := by rw [List.length_take, LL.out]; omega
      have HTL := Lib.hid htl
      have c0a := (World.cell?_alloc_lt wr (.cells #[.int .i64 (Tr.l xs i)] 3) ⟨g, 0, none⟩ (Nat.lt_of_lt_of_le hgb SD.out.sz)).trans c0
      clear r2 r3 ht htl hd
      go_wp2
      go_region_law ((refine step_append_int wr.drew rfl _ _ 29 rfl b0 3 i0 Try.underlying29 Hi.out hz0 hz1 hz2 v0 ((Tr.lab xs).take k).length ((Tr.lab xs).take k) rfl SD.out.drew.row rfl (Tr.l xs i) rfl (k + 1) (by rw [HTL.out]) (by rw [HTL.out]; omega) SD.out.sz ?_; intro v' w4 hown hgrow; obtain ⟨Av, cv, rfl⟩ := own_slice hown; have hb4 := SdA.mid hgb SD.out.drew hgrow; have hc4 := (hb4.cell (p := ⟨g, 0, none⟩) hgb).trans SD.out.c0; have hf4 := free_below hb4 hgb SD.out.fz 0))
      all_goals
        rw [HT.out] at hown
        have HP := Lib.hid (SdA.push hgb SD.out.drew hb4 hown (by rw [List.length_take, LL.out]; omega))
        clear hown hgrow hb4
        go_wp2
        go_roundw
        case rel => exact ⟨k + 1, _, by omega, by go_num, HP.out⟩
        case measure => simp [intOf]; omega
    · have hke : k = xs.length := by omega
      have htl : (Tr.lab xs).take k = Tr.lab xs := List.take_of_length_le (by rw [LL.out]; omega)
      rw [htl] at SD
      clear htl
      have ba : Below (w.heap.size + 1) (w.alloc (.cells #[.slice none 0 0, .slice none 0 0, .slice none 0 0] 87)) wr := by
        have e1 : (w.alloc (.cells #[.slice none 0 0, .slice none 0 0, .slice none 0 0] 87)).heap.size = w.heap.size + 1 := by simp
        have b1 := B1.out
        rw [e1] at b1
        have s1 := b1.size
        have s2 := B2.out.size
        have s3 := HG.out
        refine (b1.trans (B2.out.mono (by omega))).trans (SD.out.bl.mono (by omega))
      have y0 := (ba.cell (p := ⟨w.heap.size, 0, none⟩) (by simp)).trans (show _ = some (.slice none 0 0) by simp)
      have y1 := (ba.cell (p := ⟨w.heap.size, 1, none⟩) (by simp)).trans (show _ = some (.slice none 0 0) by simp)
      have y2 := (ba.cell (p := ⟨w.heap.size, 2, none⟩) (by simp)).trans (show _ = some (.slice none 0 0) by simp)
      have yf := free_below (g := w.heap.size) ba (by omega) (fun off => by simp)
      have yf0 := yf 0
      have yf1 := yf 1
      have yf2 := yf 2
      have c0 := SD.out.c0
      have c1' := SD.out.c1
      have c2' := SD.out.c2
      have hgne : g ≠ w.heap.size := by
        have s1 := B1.out.size
        have s2 := B2.out.size
        have s3 := HG.out
        have e1 : (w.alloc (.cells #[.slice none 0 0, .slice none 0 0, .slice none 0 0] 87)).heap.size = w.heap.size + 1 := by simp
        omega
      have HBA := Lib.hid ba
      obtain ⟨A0, c0v, hv0⟩ := own_slice SD.out.row
      subst hv0
      rw [LL.out] at c0
      clear ba yf hke
      go_wp2
      (try simp only [Exit.inBlock, Exit.then])
      refine bodyPost_ret (v := .agg #[.slice A0 xs.length c0v, .slice A1 (Zs.up (Tr.lfs xs)).length c1, .slice A2 (Zs.up (Tr.krs xs)).length c2]) ?_ rfl ?_
      · rw [results_cell1 rfl]
        go_simp
      · have e1 : (w.alloc (.cells #[.slice none 0 0, .slice none 0 0, .slice none 0 0] 87)).heap.size = w.heap.size + 1 := by simp
        have s1 := B1.out.size
        have s2 := B2.out.size
        have s3 := HG.out
        have p1 := own_below (own_below O1.out B2.out) (by rw [← HG.out]; exact SD.out.bl)
        have p2 := own_below O2.out (by rw [← HG.out]; exact SD.out.bl)
        have keep : ∀ {v : Value} {n base : Nat} {ys : List Value} (u0 u1 u2 : Value), w.heap.size < base → wr.ownsRow base 3 1 v n ys → (((wr.setCell ⟨w.heap.size, 0, none⟩ u0).setCell ⟨w.heap.size, 1, none⟩ u1).setCell ⟨w.heap.size, 2, none⟩ u2).ownsRow w.heap.size 3 1 v n ys := fun u0 u1 u2 hlt k =>
          own_base (own_grown (own_grown (own_grown k (Kit.grown_set _ _ _ _) (fun b hb => by injection hb with hb; omega)) (Kit.grown_set _ _ _ _) (fun b hb => by injection hb with hb; omega)) (Kit.grown_set _ _ _ _) (fun b hb => by injection hb with hb; omega)) (by omega)
        have hu1 : (Zs.up (Tr.lfs xs)).length = xs.length := by rw [Zs.up_length, Tr.lfs_len HK.out]
        have hu2 : (Zs.up (Tr.krs xs)).length = (Tr.krs xs).length := Zs.up_length _
        have r0 := SD.out.row
        rw [LL.out] at r0
        rw [hu1] at p1 ⊢
        rw [hu2] at p2 ⊢
        have hbw : Below w.heap.size w wr := ((Below.refl w.heap.size w).alloc (Nat.le_refl _) _).trans (HBA.out.mono (by omega))
        exact ⟨A0, A1, A2, c0v, c1, c2, rfl, keep _ _ _ (by omega) r0, keep _ _ _ (by omega) p1, keep _ _ _ (by omega) p2, ((hbw.setCell (Nat.le_refl _) _).setCell (Nat.le_refl _) _).setCell (Nat.le_refl _) _⟩

end Go.Proofs.Ytgkkeejhfofcaaa
