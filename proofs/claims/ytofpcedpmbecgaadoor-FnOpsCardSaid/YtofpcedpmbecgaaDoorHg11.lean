/- Texts of one claim laid into one file, in build order: SideI, FullM, Krl. -/
import Derived.Test.YtofpcedpmbecgaaDoorHg1
import Derived.Test.YtofpcedpmbecgaaDoorHg10
import Derived.Test.YtofpcedpmbecgaaDoorHg3
import Derived.Test.YtofpcedpmbecgaaDoorHg6
import Derived.Test.YtofpcedpmbecgaaDoorHg7
import Derived.Test.YtofpcedpmbecgaaDoorHg8
import Derived.Deep.RegionLaw
import Derived.Laws.OwnMore
import Derived.Laws.Tables
import Derived.Outline
/- Contracts (SideI). -/
namespace Go.Proofs.YtofpcedpmbecgaaDoor
open Go.RowKit
set_option linter.unusedVariables false

/-- out = append(out, x) in a region that draws its order, out a row of ints of the call's own -/
theorem step_append_int {P : Program} {ops : Array Oper} {o : Oper} {a : Act} (w : World) {K : Act → World → Prop} {Q : Exit → Act → World → Prop} {E : Prop} (hgd : o.guard = none) (s x : Operand) (t : TypeId)
    (ho : o.op = .call { callee := .builtin .append, args := #[s, x], argTypes := #[t, t] })
    (base : Nat) (e : TypeId) (i : TypeInfo) (ht : P.underlying t = some (.slice e)) (hi : P.info? e = some i) (hz : i.zero = some (.int .i64 0))
    (hsize : i.size = 1) (hby : i.bytes = 8) (v : Value) (n : Nat) (l : List Int) (hs : a.eval s = v) (hown : w.ownsRow base e 1 v n (ints l)) (hn : n = l.length)
    (b : Int) (hx : a.eval x = .slice (some ⟨w.heap.size, 0, none⟩) 1 1)
    (N : Nat) (hN : N = l.length + 1) (h63 : l.length + 1 ≤ 1073741824) (hbase : base ≤ w.heap.size)
    (h : ∀ v' w', w'.ownsRow base e 1 v' N (ints (l ++ [b])) → (w.alloc (.cells #[.int .i64 b] e)).grownBy w' v.ownBlock → K (a.put o.dst v') w') :
    if Region.wanted o (yielded ops a.tmps) = true then Oper.wp P o a (w.alloc (.cells #[.int .i64 b] e)) K Q else E := by
  have hw : Region.wanted o (yielded ops a.tmps) = true := by simp [Region.wanted, hgd]
  rw [if_pos hw]
  subst hn
  subst hN
  refine wp_append_own _ s x t ho base e i (.int .i64 0) 1 8 ht hi hz hsize hby rfl (by decide) v l.length (ints l) hs (hown.alloc _) ⟨w.heap.size, 0, none⟩ 1 1 [.int .i64 b] hx rfl ?_ ?_ ?_ ?_ ?_ ?_
  · intro j u hj
    have hj0 : j = 0 := by
      have := (List.getElem?_eq_some_iff.1 hj).1
      simpa using this
    subst hj0
    simp at hj
    subst hj
    simp [Addr.add]
  · intro u hu; simp at hu; subst hu; rfl
  · unfold maxLen; omega
  · omega
  · simp; omega
  · intro v' w' h2 h3 _
    refine h v' w' ?_ h3
    rw [ints_append]
    exact h2
/-- a struct of three rows in block g, the first of which grows in blocks from b0 on -/
structure SdA (g b0 : Nat) (v1 v2 : Value) (L : List Int) (v0 : Value) (w2 w3 wr : World) : Prop where
  c0 : wr.cell? ⟨g, 0, none⟩ = some v0
  c1 : wr.cell? ⟨g, 1, none⟩ = some v1
  c2 : wr.cell? ⟨g, 2, none⟩ = some v2
  fz : ∀ off, wr.frozen? ⟨g, off, none⟩ = false
  row : wr.ownsRow b0 3 1 v0 L.length (ints L)
  kb : ∀ p : Addr, p.block < b0 → p.block ≠ g → wr.cell? p = w3.cell? p
  bl : Below g w2 wr
  sz : b0 ≤ wr.heap.size
theorem SdA.drew {g b0 : Nat} {v1 v2 v0 : Value} {L : List Int} {w2 w3 wr : World} (h : SdA g b0 v1 v2 L v0 w2 w3 wr) : SdA g b0 v1 v2 L v0 w2 w3 wr.drew :=
  ⟨h.c0, h.c1, h.c2, h.fz, own_drawn h.row (Drawn.refl _).drew, h.kb, Drawn.below h.bl (Drawn.refl _).drew, h.sz⟩
theorem SdA.mid {g b0 : Nat} {v1 v2 v0 : Value} {L : List Int} {w2 w3 wr w' : World} {o : Obj} (hg : g < b0) (h : SdA g b0 v1 v2 L v0 w2 w3 wr) (hgrow : (wr.alloc o).grownBy w' v0.ownBlock) :
    Below b0 wr w' := by
  have ha : Below b0 wr (wr.alloc o) := (Below.refl _ _).alloc h.sz o
  refine ha.grown hgrow ?_ (fun k hk => (h.row.lt k hk).1)
  have : (wr.alloc o).heap.size = wr.heap.size + 1 := by simp
  have := h.sz
  omega
theorem SdA.push {g b0 n : Nat} {v1 v2 v0 v' : Value} {L L' : List Int} {w2 w3 wr w' : World} (hg : g < b0) (h : SdA g b0 v1 v2 L v0 w2 w3 wr) (hb : Below b0 wr w') (hown : w'.ownsRow b0 3 1 v' n (ints L')) (hn : n = L'.length) :
    SdA g b0 v1 v2 L' v' w2 w3 (w'.setCell ⟨g, 0, none⟩ v') := by
  subst hn
  refine ⟨?_, ?_, ?_, fun off => ?_, own_grown hown (Kit.grown_set w' g _ _) (fun b hb => by injection hb with hb; omega), fun p h1 h2 => ?_, (h.bl.trans (hb.mono (by omega))).setCell (Nat.le_refl _) _, ?_⟩
  · exact World.cell?_setCell_same' _ _ _ (by rw [hb.cell (p := ⟨g, 0, none⟩) hg, h.c0]; rfl)
  · rw [World.cell?_setCell_other _ _ _ _ (fun e => by injection e with e1 e2; omega), hb.cell (p := ⟨g, 1, none⟩) hg]; exact h.c1
  · rw [World.cell?_setCell_other _ _ _ _ (fun e => by injection e with e1 e2; omega), hb.cell (p := ⟨g, 2, none⟩) hg]; exact h.c2
  · rw [World.frozen?_setCell]; exact free_below hb hg h.fz off
  · rw [World.cell?_setCell_other _ _ _ _ (fun e => h2 (by rw [← e])), hb.cell h1]; exact h.kb p h1 h2
  · have := hb.size
    have := h.sz
    simp
    omega
/-- one side: labels, first leaves, key roots -/
def OwnSide (xs : Tr) (w : World) (e : Ending) (w' : World) : Prop :=
  ∃ A0 A1 A2 c0 c1 c2, e = .returned (.agg #[.slice A0 xs.length c0, .slice A1 xs.length c1, .slice A2 (Tr.krs xs).length c2]) ∧
    w'.ownsRow w.heap.size 3 1 (.slice A0 xs.length c0) xs.length (ints (Tr.lab xs)) ∧ w'.ownsRow w.heap.size 3 1 (.slice A1 xs.length c1) xs.length (ints (Zs.up (Tr.lfs xs))) ∧
    w'.ownsRow w.heap.size 3 1 (.slice A2 (Tr.krs xs).length c2) (Tr.krs xs).length (ints (Zs.up (Tr.krs xs))) ∧ Below w.heap.size w w'

set_option maxHeartbeats 1600000 in
set_option maxRecDepth 100000 in
theorem sideOf_any (A : Option Addr) (n c : Nat) (xs : Tr) (w : World) (h : NdIn w w.heap.size A n xs) (hnc : n ≤ c) (hok : Tr.ok xs = true) :
    Calls Tryd.prog 61 #[.slice A n c] w (OwnSide xs w) := by
  have hnl : xs.length = n := h.1
  obtain ⟨hn1, hn24⟩ := Tr.len24 hok
  have h0 : (Below w.heap.size w (w.alloc (.cells #[.slice none 0 0, .slice none 0 0, .slice none 0 0] 62))) := (Below.refl _ _).alloc (Nat.le_refl _) _
  have H := Lib.hid h
  have H0 := Lib.hid (h.to_below h0)
  have HK := Lib.hid hok
  clear h hok h0
  go_enter Tryd.func61, Tryd.ntmps61
  go_wp2_with fail
  refine (implLeftLeaf_any _ _ _ xs _ H0.out (by omega) hnc).mono ?_
  rintro e w1 ⟨A1, c1, rfl, o1, b1⟩
  have H1 := Lib.hid (H0.out.to_below b1)
  have O1 := Lib.hid o1
  have B1 := Lib.hid b1
  clear o1 b1
  go_wp2_with fail
  refine (implKeyRoots_any _ _ _ xs _ H1.out (by omega) hnc).mono ?_
  rintro e w2 ⟨A2, c2, rfl, o2, b2⟩
  have H2 := Lib.hid (H1.out.to_below b2)
  have O2 := Lib.hid o2
  have B2 := Lib.hid b2
  clear o2 b2
  go_wp2_with fail
  obtain ⟨g, hg⟩ : ∃ g, g = w2.heap.size := ⟨_, rfl⟩
  obtain ⟨ws, hws⟩ : ∃ ws, ws = w2.alloc (.cells #[.slice none 0 0, .slice A1 (Zs.up (Tr.lfs xs)).length c1, .slice A2 (Zs.up (Tr.krs xs)).length c2] 62) := ⟨_, rfl⟩
  have bs : Below g w2 ws := by rw [hws]; exact (Below.refl _ _).alloc (by omega) _
  have zs : ws.heap.size = g + 1 := by rw [hws, hg]; simp
  have q0 : ws.cell? ⟨g, 0, none⟩ = some (.slice none 0 0) := by rw [hws, hg]; simp
  have q1 : ws.cell? ⟨g, 1, none⟩ = some (.slice A1 (Zs.up (Tr.lfs xs)).length c1) := by rw [hws, hg]; simp
  have q2 : ws.cell? ⟨g, 2, none⟩ = some (.slice A2 (Zs.up (Tr.krs xs)).length c2) := by rw [hws, hg]; simp
  have qf : ∀ off, ws.frozen? ⟨g, off, none⟩ = false := fun off => by rw [hws, hg]; simp
  rw [← hws, ← hg]
  have HSN := Lib.hid (H2.out.to_below (w' := ws) (by rw [hg] at bs; exact bs))
  have hpl : (Zs.up (Tr.post xs)).length = xs.length := by rw [Zs.up_length, Tr.post_length HK.out]
  refine (implPostOrder_any _ _ _ xs _ HSN.out (by omega) hnc).mono ?_
  rintro e w3 ⟨A3, c3, rfl, o3, b3⟩
  have I3 := Lib.hid (IntIn.of_own o3)
  obtain ⟨b0, hb0⟩ : ∃ b0, b0 = w3.heap.size := ⟨_, rfl⟩
  have hgb : g < b0 := by have := b3.size; omega
  have st : SdA g b0 (.slice A1 (Zs.up (Tr.lfs xs)).length c1) (.slice A2 (Zs.up (Tr.krs xs)).length c2) [] (.slice none 0 0) w2 w3 w3 := by
    refine ⟨(b3.cell (p := ⟨g, 0, none⟩) (by simp; omega)).trans q0, (b3.cell (p := ⟨g, 1, none⟩) (by simp; omega)).trans q1, (b3.cell (p := ⟨g, 2, none⟩) (by simp; omega)).trans q2, fun off => free_below b3 (by omega) qf off, own_nil, fun _ _ _ => rfl, bs.trans (b3.mono (by omega)), by omega⟩
  rw [← hb0] at I3
  rw [hpl] at I3 ⊢
  have ST := Lib.hid st
  have HG := Lib.hid hg
  have HB0 := Lib.hid hb0
  have hp3 : ∀ k, k < xs.length → ∃ i : Nat, i < xs.length ∧ Zs.at (Zs.up (Tr.post xs)) k = (i : Int) ∧ Tr.xa xs k = Tr.l xs i := fun k hk => by
    obtain ⟨i, h1, _, _, h4, h5⟩ := Tr.la_at HK.out hk
    have hk2 : k < (Tr.post xs).length := by rw [Tr.post_length HK.out]; exact hk
    refine ⟨i, h1, ?_, h4⟩
    rw [Zs.up_at _ _ hk2]
    rw [List.getElem?_eq_getElem hk2] at h5
    injection h5 with h5
    rw [h5]
  have HP3 := Lib.hid hp3
  have hpos : ∃ a3, A3 = some a3 ∧ a3.block < b0 ∧ a3.block ≠ g := by
    obtain ⟨a3, e1, e2⟩ := I3.out.2.1 (by omega)
    obtain ⟨g3, f1, f2, _⟩ := own_form o3 (by rw [hpl]; omega)
    refine ⟨a3, e1, e2, ?_⟩
    rw [e1] at f1
    injection f1 with f1
    rw [f1]
    show g3 ≠ g
    omega
  obtain ⟨a3, rfl, ha3, ha4⟩ := hpos
  have LL := Lib.hid (Tr.lab_len HK.out)
  obtain ⟨i0, hi0, hz0, hz1, hz2⟩ := info_parts info_intZ
  have Hi := Lib.hid hi0
  clear st hg hb0 hp3 o3 b3 q0 q1 q2 qf bs hws hi0 zs hpl
  go_wp2
  go_loopw [14] (fun kv wr => ∃ (k : Nat) (v0 : Value), k ≤ xs.length ∧ kv = .int .i64 k ∧ SdA g b0 (.slice A1 (Zs.up (Tr.lfs xs)).length c1) (.slice A2 (Zs.up (Tr.krs xs)).length c2) ((Tr.lab xs).take k) v0 w2 w3 wr) (fun k _ => xs.length - (intOf k).toNat)
  case atStart => exact ⟨0, _, by omega, rfl, by rw [List.take_zero]; exact ST.out⟩
  case round =>
    clear ST
    obtain ⟨k, v0, hk, rfl, hs⟩ := hrel
    have SD := Lib.hid hs
    clear hs
    by_cases hlt : k < xs.length
    · obtain ⟨i, r1, r2, r3⟩ := HP3.out k hlt
      have cp := (SD.out.kb (a3.add k) (by rw [block_of_add]; exact ha3) (by rw [block_of_add]; exact ha4)).trans (I3.out.here hlt)
      rw [r2] at cp
      obtain ⟨ad, rfl, _, hl, hd⟩ := (H2.out.below (by rw [← HG.out]; exact SD.out.bl)).at_ (k := i) (by omega)
      have c0 := SD.out.c0
      have b1 : (0 : Int) ≤ (i : Int) := by omega
      have b2 : (i : Int) < (n : Int) := by omega
      have k1 : (0 : Int) ≤ (k : Int) := by omega
      have k2 : (k : Int) < (xs.length : Int) := by omega
      have ht : (Tr.lab xs).take k ++ [Tr.l xs i] = (Tr.lab xs).take (k + 1) := by
        rw [List.take_succ_eq_append_getElem (by rw [LL.out]; exact hlt), ← r3]
        congr 2
        unfold Tr.xa
        rw [List.getD_eq_getElem?_getD, List.getElem?_eq_getElem (by rw [LL.out]; exact hlt)]
        rfl
      have HT := Lib.hid ht
      have htl : ((Tr.lab xs).take k).length = k := by rw [List.length_take, LL.out]; omega
      have HTL := Lib.hid htl
      have c0a := (World.cell?_alloc_lt wr (.cells #[.int .i64 (Tr.l xs i)] 3) ⟨g, 0, none⟩ (Nat.lt_of_lt_of_le hgb SD.out.sz)).trans c0
      clear r2 r3 ht htl hd
      go_wp2
      go_region_law ((refine step_append_int wr.drew rfl _ _ 25 rfl b0 3 i0 Tryd.underlying25 Hi.out hz0 hz1 hz2 v0 ((Tr.lab xs).take k).length ((Tr.lab xs).take k) rfl SD.out.drew.row rfl (Tr.l xs i) rfl (k + 1) (by rw [HTL.out]) (by rw [HTL.out]; omega) SD.out.sz ?_; intro v' w4 hown hgrow; obtain ⟨Av, cv, rfl⟩ := own_slice hown; have hb4 := SdA.mid hgb SD.out.drew hgrow; have hc4 := (hb4.cell (p := ⟨g, 0, none⟩) hgb).trans SD.out.c0; have hf4 := free_below hb4 hgb SD.out.fz 0))
      all_goals
        rw [HT.out] at hown
        have HP := Lib.hid (SdA.push hgb SD.out.drew hb4 hown (by rw [List.length_take, LL.out]; omega))
        clear hown hgrow hb4
        go_wp2
        go_roundw
        case rel => exact ⟨k + 1, _, by omega, by go_num, HP.out⟩
        case measure => simp [intOf]; omega
    · have hke : k = xs.length := by omega
      have htl : (Tr.lab xs).take k = Tr.lab xs := List.take_of_length_le (by rw [LL.out]; omega)
      rw [htl] at SD
      clear htl
      have ba : Below (w.heap.size + 1) (w.alloc (.cells #[.slice none 0 0, .slice none 0 0, .slice none 0 0] 62)) wr := by
        have e1 : (w.alloc (.cells #[.slice none 0 0, .slice none 0 0, .slice none 0 0] 62)).heap.size = w.heap.size + 1 := by simp
        have b1 := B1.out
        rw [e1] at b1
        have s1 := b1.size
        have s2 := B2.out.size
        have s3 := HG.out
        refine (b1.trans (B2.out.mono (by omega))).trans (SD.out.bl.mono (by omega))
      have y0 := (ba.cell (p := ⟨w.heap.size, 0, none⟩) (by simp)).trans (show _ = some (.slice none 0 0) by simp)
      have y1 := (ba.cell (p := ⟨w.heap.size, 1, none⟩) (by simp)).trans (show _ = some (.slice none 0 0) by simp)
      have y2 := (ba.cell (p := ⟨w.heap.size, 2, none⟩) (by simp)).trans (show _ = some (.slice none 0 0) by simp)
      have yf := free_below (g := w.heap.size) ba (by omega) (fun off => by simp)
      have yf0 := yf 0
      have yf1 := yf 1
      have yf2 := yf 2
      have c0 := SD.out.c0
      have c1' := SD.out.c1
      have c2' := SD.out.c2
      have hgne : g ≠ w.heap.size := by
        have s1 := B1.out.size
        have s2 := B2.out.size
        have s3 := HG.out
        have e1 : (w.alloc (.cells #[.slice none 0 0, .slice none 0 0, .slice none 0 0] 62)).heap.size = w.heap.size + 1 := by simp
        omega
      have HBA := Lib.hid ba
      obtain ⟨A0, c0v, hv0⟩ := own_slice SD.out.row
      subst hv0
      rw [LL.out] at c0
      clear ba yf hke
      go_wp2
      (try simp only [Exit.inBlock, Exit.then])
      refine bodyPost_ret (v := .agg #[.slice A0 xs.length c0v, .slice A1 (Zs.up (Tr.lfs xs)).length c1, .slice A2 (Zs.up (Tr.krs xs)).length c2]) ?_ rfl ?_
      · rw [results_cell1 rfl]
        go_simp
      · have e1 : (w.alloc (.cells #[.slice none 0 0, .slice none 0 0, .slice none 0 0] 62)).heap.size = w.heap.size + 1 := by simp
        have s1 := B1.out.size
        have s2 := B2.out.size
        have s3 := HG.out
        have p1 := own_below (own_below O1.out B2.out) (by rw [← HG.out]; exact SD.out.bl)
        have p2 := own_below O2.out (by rw [← HG.out]; exact SD.out.bl)
        have keep : ∀ {v : Value} {n base : Nat} {ys : List Value} (u0 u1 u2 : Value), w.heap.size < base → wr.ownsRow base 3 1 v n ys → (((wr.setCell ⟨w.heap.size, 0, none⟩ u0).setCell ⟨w.heap.size, 1, none⟩ u1).setCell ⟨w.heap.size, 2, none⟩ u2).ownsRow w.heap.size 3 1 v n ys := fun u0 u1 u2 hlt k =>
          own_base (own_grown (own_grown (own_grown k (Kit.grown_set _ _ _ _) (fun b hb => by injection hb with hb; omega)) (Kit.grown_set _ _ _ _) (fun b hb => by injection hb with hb; omega)) (Kit.grown_set _ _ _ _) (fun b hb => by injection hb with hb; omega)) (by omega)
        have hu1 : (Zs.up (Tr.lfs xs)).length = xs.length := by rw [Zs.up_length, Tr.lfs_len HK.out]
        have hu2 : (Zs.up (Tr.krs xs)).length = (Tr.krs xs).length := Zs.up_length _
        have r0 := SD.out.row
        rw [LL.out] at r0
        rw [hu1] at p1 ⊢
        rw [hu2] at p2 ⊢
        have hbw : Below w.heap.size w wr := ((Below.refl w.heap.size w).alloc (Nat.le_refl _) _).trans (HBA.out.mono (by omega))
        exact ⟨A0, A1, A2, c0v, c1, c2, rfl, keep _ _ _ (by omega) r0, keep _ _ _ (by omega) p1, keep _ _ _ (by omega) p2, ((hbw.setCell (Nat.le_refl _) _).setCell (Nat.le_refl _) _).setCell (Nat.le_refl _) _⟩

end Go.Proofs.YtofpcedpmbecgaaDoor

/- Contracts (FullM). -/
namespace Go.Proofs.YtofpcedpmbecgaaDoor
open Go.RowKit
set_option linter.unusedVariables false

/-! How the table is made. -/
/-- make([]int, n) in a region that draws, as the walk leaves it -/
theorem upon_make {P : Program} {o : Oper} {a : Act} {w : World} {K : Act → World → Prop} {Q : Exit → Act → World → Prop} (base : Nat) (t e : TypeId) (i : TypeInfo) (ht : P.underlying t = some (.slice e)) (hi : P.info? e = some i) (hz : i.zero = some (.int .i64 0)) (hsize : i.size = 1) (hby : i.bytes = 8)
    (n : Nat) (hn : n ≤ 1048576) (hbase : base ≤ w.heap.size)
    (h : ∀ w', w'.ownsRow base e 1 (.slice (some ⟨w.heap.size, 0, none⟩) n n) n (ints (List.replicate n 0)) → w.grownBy w' none → K (a.put o.dst (.slice (some ⟨w.heap.size, 0, none⟩) n n)) w') :
    Oper.upon P o a K Q ((Sem.run P (Instr.makeSlice t (.int .i64 (n : Int)) (.int .i64 (n : Int))) w).andThen fun v w' => .ok (.value v) w') := by
  obtain ⟨w', hrun, r1, r2⟩ := run_make_full (P := P) w base t e i (.int .i64 0) 1 ht hi hz hsize .i64 .i64 n (by rw [hby]; omega) (by unfold maxLen; omega) hbase
  rw [made_zeros 0 n] at r1
  rw [hrun]
  exact h w' r1 r2
/-- the cells of a new table -/
def dtCells (z : Array Value) (a0 a1 a2 b0 b1 b2 k0 k1 k2 t : Value) : Array Value := (((((((((z.setIfInBounds 0 a0).setIfInBounds 1 a1).setIfInBounds 2 a2).setIfInBounds 3 b0).setIfInBounds 4 b1).setIfInBounds 5 b2).setIfInBounds 6 k0).setIfInBounds 7 k1).setIfInBounds 8 k2).setIfInBounds 9 t
theorem dt_cells (a0 a1 a2 b0 b1 b2 k0 k1 k2 t : Value) : dtCells Tryd.zeroCells67 a0 a1 a2 b0 b1 b2 k0 k1 k2 t = ⟨[a0, a1, a2, b0, b1, b2, k0, k1, k2, t] ++ List.replicate 625 (.int .i64 0)⟩ := by kernel_rfl
theorem dtCells_zero (a0 a1 a2 b0 b1 b2 k0 k1 k2 t : Value) (x y : Nat) (hx : x < 25) (hy : y < 25) : (dtCells Tryd.zeroCells67 a0 a1 a2 b0 b1 b2 k0 k1 k2 t)[10 + x * 25 + y]? = some (.int .i64 0) := by
  rw [dt_cells, List.getElem?_toArray, List.getElem?_append_right (by simp; omega), List.getElem?_replicate, if_pos (by simp; omega)]
/-- a row of the call's own, seen from a block that is made behind it -/
theorem RowOff.of_own {w : World} {base ga gt n c : Nat} {zs : List Int} {o : Obj} (h : w.ownsRow base 3 1 (.slice (some ⟨ga, 0, none⟩) n c) n (ints zs)) (hg : ga < w.heap.size) (hne : ga ≠ gt) : RowOff (w.alloc o) w.heap.size gt ⟨ga, 0, none⟩ n zs := by
  have hlen : zs.length = n := by have := h.1; rw [ints_length] at this; omega
  refine ⟨hlen, by simp; omega, by show ga ≠ w.heap.size; omega, hne, fun k hk => ?_⟩
  have := (h.alloc o).cells rfl k _ (ints_at zs k (by omega))
  exact this
theorem RowOff.of_in {w : World} {B gt n : Nat} {ad : Addr} {zs : List Int} {o : Obj} (h : IntIn w B (some ad) n zs) (hb : ad.block < B) (hB : B ≤ gt) (hg : gt < w.heap.size) : RowOff (w.alloc o) w.heap.size gt ad n zs := by
  refine ⟨h.1, by simp; omega, by omega, by omega, fun k hk => ?_⟩
  rw [World.cell?_alloc_lt w o _ (by rw [block_of_add]; omega)]
  exact h.here hk
theorem cell_made (w : World) (cs : Array Value) (e : TypeId) (off : Nat) (u : Value) (hu : cs[off]? = some u) : (w.alloc (.cells cs e)).cell? ⟨w.heap.size, off, none⟩ = some u := by simp [hu]
theorem free_made (w : World) (cs : Array Value) (e : TypeId) (off : Nat) : (w.alloc (.cells cs e)).frozen? ⟨w.heap.size, off, none⟩ = false := by simp
theorem size_made (w : World) (cs : Array Value) (e : TypeId) : (w.alloc (.cells cs e)).heap.size = w.heap.size + 1 := by simp
set_option maxRecDepth 100000 in
/-- the table, new -/
theorem DT.made {B nm : Nat} {xs ys : Tr} {k : Co} {w : World} {ga0 ga1 ga2 gb0 gb1 gb2 gt ca0 ca1 ca2 cb0 cb1 cb2 ck0 ck1 ck2 : Nat} {k0 k1 k2 : Addr}
    (a0 : w.ownsRow B 3 1 (.slice (some ⟨ga0, 0, none⟩) xs.length ca0) xs.length (ints (Tr.lab xs))) (a1 : w.ownsRow B 3 1 (.slice (some ⟨ga1, 0, none⟩) xs.length ca1) xs.length (ints (Zs.up (Tr.lfs xs)))) (a2 : w.ownsRow B 3 1 (.slice (some ⟨ga2, 0, none⟩) (Tr.krs xs).length ca2) (Tr.krs xs).length (ints (Zs.up (Tr.krs xs))))
    (b0 : w.ownsRow B 3 1 (.slice (some ⟨gb0, 0, none⟩) ys.length cb0) ys.length (ints (Tr.lab ys))) (b1 : w.ownsRow B 3 1 (.slice (some ⟨gb1, 0, none⟩) ys.length cb1) ys.length (ints (Zs.up (Tr.lfs ys)))) (b2 : w.ownsRow B 3 1 (.slice (some ⟨gb2, 0, none⟩) (Tr.krs ys).length cb2) (Tr.krs ys).length (ints (Zs.up (Tr.krs ys))))
    (hnm : nm = xs.length * ys.length) (t : w.ownsRow B 3 1 (.slice (some ⟨gt, 0, none⟩) nm nm) nm (ints (List.replicate nm 0)))
    (hk : CoIn w B (some k0) (some k1) (some k2) 6 6 36 k)
    (na : ga0 ≠ gt ∧ ga1 ≠ gt ∧ ga2 ≠ gt ∧ gb0 ≠ gt ∧ gb1 ≠ gt ∧ gb2 ≠ gt) (nl : ga0 < w.heap.size ∧ ga1 < w.heap.size ∧ ga2 < w.heap.size ∧ gb0 < w.heap.size ∧ gb1 < w.heap.size ∧ gb2 < w.heap.size) (ht : B ≤ gt ∧ gt < w.heap.size) :
    DT B ⟨w.heap.size, gt, ⟨ga0, 0, none⟩, ⟨ga1, 0, none⟩, ⟨ga2, 0, none⟩, ⟨gb0, 0, none⟩, ⟨gb1, 0, none⟩, ⟨gb2, 0, none⟩, k0, k1, k2, ca0, ca1, ca2, cb0, cb1, cb2, ck0, ck1, ck2⟩ xs ys k (fun _ _ => 0) (List.replicate nm 0)
      (w.alloc (.cells (dtCells Tryd.zeroCells67 (.slice (some ⟨ga0, 0, none⟩) xs.length ca0) (.slice (some ⟨ga1, 0, none⟩) xs.length ca1) (.slice (some ⟨ga2, 0, none⟩) (Tr.krs xs).length ca2) (.slice (some ⟨gb0, 0, none⟩) ys.length cb0) (.slice (some ⟨gb1, 0, none⟩) ys.length cb1) (.slice (some ⟨gb2, 0, none⟩) (Tr.krs ys).length cb2)
        (.slice (some k0) 6 ck0) (.slice (some k1) 6 ck1) (.slice (some k2) 36 ck2) (.slice (some ⟨gt, 0, none⟩) nm nm)) 67)) := by
  subst hnm
  obtain ⟨_, e0, q0⟩ := hk.1.2.1 (by omega)
  injection e0 with e0; subst e0
  obtain ⟨_, e1, q1⟩ := hk.2.1.2.1 (by omega)
  injection e1 with e1; subst e1
  obtain ⟨_, e2, q2⟩ := hk.2.2.2.1 (by omega)
  injection e2 with e2; subst e2
  exact {
    gB := by show B ≤ w.heap.size; omega
    gl := by show w.heap.size < _; rw [size_made]; omega
    gg := by show gt ≠ w.heap.size; omega
    fz := free_made _ _ _
    h0 := cell_made _ _ _ 0 _ (by rw [dt_cells]; rfl), h1 := cell_made _ _ _ 1 _ (by rw [dt_cells]; rfl), h2 := cell_made _ _ _ 2 _ (by rw [dt_cells]; rfl), h3 := cell_made _ _ _ 3 _ (by rw [dt_cells]; rfl), h4 := cell_made _ _ _ 4 _ (by rw [dt_cells]; rfl), h5 := cell_made _ _ _ 5 _ (by rw [dt_cells]; rfl), h6 := cell_made _ _ _ 6 _ (by rw [dt_cells]; rfl), h7 := cell_made _ _ _ 7 _ (by rw [dt_cells]; rfl), h8 := cell_made _ _ _ 8 _ (by rw [dt_cells]; rfl), h9 := cell_made _ _ _ 9 _ (by rw [dt_cells]; rfl)
    fr := fun x y hx hy => cell_made _ _ _ _ _ (dtCells_zero _ _ _ _ _ _ _ _ _ _ x y hx hy)
    row := t.alloc _
    ra0 := RowOff.of_own a0 nl.1 na.1, ra1 := RowOff.of_own a1 nl.2.1 na.2.1, ra2 := RowOff.of_own a2 nl.2.2.1 na.2.2.1
    rb0 := RowOff.of_own b0 nl.2.2.2.1 na.2.2.2.1, rb1 := RowOff.of_own b1 nl.2.2.2.2.1 na.2.2.2.2.1, rb2 := RowOff.of_own b2 nl.2.2.2.2.2 na.2.2.2.2.2
    rk0 := RowOff.of_in hk.1 q0 ht.1 ht.2, rk1 := RowOff.of_in hk.2.1 q1 ht.1 ht.2, rk2 := RowOff.of_in hk.2.2 q2 ht.1 ht.2 }

end Go.Proofs.YtofpcedpmbecgaaDoor

/- The last pair of key roots. -/
namespace Go.Proofs.YtofpcedpmbecgaaDoor
open Go.RowKit
set_option linter.unusedVariables false

theorem Tr.kr_end {xs : Tr} (h : Tr.ok xs = true) {a : Nat} (ha : a + 1 = (Tr.krs xs).length) : Tr.kr xs a = xs.length - 1 := by
  obtain ⟨r, hr⟩ := Tr.krs_last h
  unfold Tr.kr
  rw [hr] at ha ⊢
  rw [List.length_append, List.length_singleton] at ha
  rw [List.getD_eq_getElem?_getD, List.getElem?_append_right (by omega), show a - r.length = 0 by omega]
  rfl
/-- the forests behind the last pair of key roots -/
theorem fill_last {xs ys : Tr} {k : Co} {kk ll y : Nat} {F : Nat → Nat → Int} {T0 T : List Int} (hx : Tr.ok xs = true) (hy : Tr.ok ys = true) (hk : kk + 1 = (Tr.krs xs).length) (hl : ll + 1 = (Tr.krs ys).length)
    (h : Fill xs ys k (Tr.kr xs kk) (Tr.kr ys ll) (Tr.kr xs kk + 1) y F T0 T) : ∀ a b, a ≤ xs.length → b ≤ ys.length → F a b = RR xs ys k 0 a 0 b := by
  intro a b ha hb
  have n1 := (Tr.len24 hx).1
  have n2 := (Tr.len24 hy).1
  have e1 := Tr.kr_end hx hk
  have e2 := Tr.kr_end hy hl
  have f := h.f a b
  rw [e1, e2, Tr.la_last hx, Tr.la_last hy] at f
  exact f (Nat.zero_le _) (by omega) (Nat.zero_le _) (by omega) (.inl (by omega))

end Go.Proofs.YtofpcedpmbecgaaDoor
