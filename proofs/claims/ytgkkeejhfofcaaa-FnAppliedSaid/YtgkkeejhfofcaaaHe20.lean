/- Texts of one claim laid into one file, in build order: OsA, Draw. -/
import Derived.Test.YtgkkeejhfofcaaaHe1
import Derived.Test.YtgkkeejhfofcaaaHe19
import Derived.Test.YtgkkeejhfofcaaaHe2
import Derived.BigQuiet
import Derived.Deep.QuietTactic
import Derived.Test.YtgkkeejhfofcaaaRows
/- Contracts (OsA). -/
namespace Go.Proofs.Ytgkkeejhfofcaaa
open Go.RowKit
set_option linter.unusedVariables false


/-! A row of operations that grows by one. -/
theorem append_op {P : Program} (w : World) {ops : Array Oper} {rest : List Oper} {o : Oper} {a : Act} {Q : Exit → Act → World → Prop} (hgd : o.guard = none) (s x : Operand) (t : TypeId)
    (ho : o.op = .call { callee := .builtin .append, args := #[s, x], argTypes := #[t, t] })
    (base : Nat) (e : TypeId) (i : TypeInfo) (ht : P.underlying t = some (.slice e)) (hi : P.info? e = some i) (hz : i.zero = some (.agg #[.int .i64 0, .slice none 0 0, .int .i64 0, .int .i64 0, .int .i64 0]))
    (hsize : i.size = 5) (hby : i.bytes = 56) (v : Value) (n : Nat) (ys : List Value) (hs : a.eval s = v) (hown : w.ownsRow base e 5 v n ys)
    (k : Int) (A : Option Addr) (m q : Nat) (b f c : Int) (hx : a.eval x = .slice (some ⟨w.heap.size, 0, none⟩) 1 1)
    (h63 : n + 1 ≤ 1073741824) (hbase : base ≤ w.heap.size)
    (h : ∀ v' w', w'.ownsRow base e 5 v' (n + 1) (ys ++ [.int .i64 k, .slice A m q, .int .i64 b, .int .i64 f, .int .i64 c]) → (w.alloc (.cells #[.int .i64 k, .slice A m q, .int .i64 b, .int .i64 f, .int .i64 c] e)).grownBy w' v.ownBlock → wpList P ops Q rest (a.put o.dst v') w') :
    wpList P ops Q (o :: rest) a (w.alloc (.cells #[.int .i64 k, .slice A m q, .int .i64 b, .int .i64 f, .int .i64 c] e)) := by
  have hl := hown.1
  refine wpList_append_own _ hgd s x t ho base e i (.agg #[.int .i64 0, .slice none 0 0, .int .i64 0, .int .i64 0, .int .i64 0]) 5 56 ht hi hz hsize hby rfl (by decide) v n ys hs (hown.alloc _) ⟨w.heap.size, 0, none⟩ 1 1 [.int .i64 k, .slice A m q, .int .i64 b, .int .i64 f, .int .i64 c] hx (by simp) ?_ (fun z hz => by simp at hz; rcases hz with rfl | rfl | rfl | rfl | rfl <;> rfl) (by unfold maxLen; omega) (by omega) (by simp; omega) ?_
  · intro j u hj
    have hj2 : j < 5 := by
      have := (List.getElem?_eq_some_iff.1 hj).1
      simpa using this
    have : j = 0 ∨ j = 1 ∨ j = 2 ∨ j = 3 ∨ j = 4 := by omega
    rcases this with rfl | rfl | rfl | rfl | rfl <;> (simp at hj; subst hj; simp [Addr.add])
  · intro v' w' h2 h3 _
    exact h v' w' h2 h3
theorem own_types {w : World} {b b' s s' n n' : Nat} {e e' : TypeId} {v v' : Value} {xs xs' : List Value} (h : w.ownsRow b e s v n xs) (h' : w.ownsRow b' e' s' v' n' xs') (hne : e ≠ e') : v.ownBlock = none ∨ v.ownBlock ≠ v'.ownBlock := by
  rcases h.2 with ⟨rfl, _⟩ | ⟨g, cap, cur, rfl, _, hg, _⟩
  · exact .inl rfl
  · refine .inr fun e2 => ?_
    rcases h'.2 with ⟨rfl, _⟩ | ⟨g', cap', cur', rfl, _, hg', _⟩
    · cases e2
    · have e3 : some g = some g' := e2
      injection e3 with e3
      subst e3
      rw [hg] at hg'
      injection hg' with hg'
      injection hg' with _ e4 _
      exact hne e4
theorem C5_snoc {F G : Nat → Nat → Value} {n : Nat} (h : ∀ i j, i < n → j < 5 → F i j = G i j) : C5 G (n + 1) = C5 F n ++ [G n 0, G n 1, G n 2, G n 3, G n 4] := by
  rw [C5_ext h]
  refine List.ext_getElem (by simp [C5]; omega) fun p h1 h2 => ?_
  rw [C5_len] at h1
  rw [List.getElem_append]
  split
  · simp [C5]
  · rename_i hp
    rw [C5_len] at hp
    simp only [C5, List.getElem_map, List.getElem_range, List.length_map, List.length_range]
    have e : p = n * 5 ∨ p = n * 5 + 1 ∨ p = n * 5 + 2 ∨ p = n * 5 + 3 ∨ p = n * 5 + 4 := by omega
    rcases e with rfl | rfl | rfl | rfl | rfl
    · simp only [Nat.sub_self, List.getElem_cons_zero]; rw [show n * 5 / 5 = n by omega, show n * 5 % 5 = 0 by omega]
    · simp only [Nat.add_sub_cancel_left, List.getElem_cons_succ, List.getElem_cons_zero]; rw [show (n * 5 + 1) / 5 = n by omega, show (n * 5 + 1) % 5 = 1 by omega]
    · simp only [Nat.add_sub_cancel_left, List.getElem_cons_succ, List.getElem_cons_zero]; rw [show (n * 5 + 2) / 5 = n by omega, show (n * 5 + 2) % 5 = 2 by omega]
    · simp only [Nat.add_sub_cancel_left, List.getElem_cons_succ, List.getElem_cons_zero]; rw [show (n * 5 + 3) / 5 = n by omega, show (n * 5 + 3) % 5 = 3 by omega]
    · simp only [Nat.add_sub_cancel_left, List.getElem_cons_succ, List.getElem_cons_zero]; rw [show (n * 5 + 4) / 5 = n by omega, show (n * 5 + 4) % 5 = 4 by omega]
/-- operations in a row of the call's own, each path in a row of its own -/
def OpsAt (OP IT : TypeId) (lo : Nat) (v : Value) (os : List Opr) (F : Nat → Value) (w : World) : Prop :=
  w.ownsRow lo OP 5 v os.length (C5 (fun i => (os.getD i Opr.z).cell (F i)) os.length) ∧ ∀ i, i < os.length → ∃ P q, F i = .slice P (os.getD i Opr.z).p.length q ∧ w.ownsRow lo IT 1 (F i) (os.getD i Opr.z).p.length (ints (os.getD i Opr.z).p)
section
variable {OP IT : TypeId} {lo : Nat} {v v' : Value} {os : List Opr} {F : Nat → Value} {w w' : World}
theorem OpsAt.nil (h : w.ownsRow lo OP 5 v 0 []) : OpsAt OP IT lo v [] F w := ⟨h, fun i hi => absurd hi (Nat.not_lt_zero i)⟩
theorem OpsAt.below (h : OpsAt OP IT lo v os F w) (hb : Below w.heap.size w w') : OpsAt OP IT lo v os F w' :=
  ⟨own_below h.1 hb, fun i hi => by obtain ⟨P, q, e, ho⟩ := h.2 i hi; exact ⟨P, q, e, own_below ho hb⟩⟩
theorem OpsAt.grown (h : OpsAt OP IT lo v os F w) {row : Option Nat} (hg : w.grownBy w' row) (hr : ∀ g, row = some g → g < lo) : OpsAt OP IT lo v os F w' :=
  ⟨own_grown h.1 hg hr, fun i hi => by obtain ⟨P, q, e, ho⟩ := h.2 i hi; exact ⟨P, q, e, own_grown ho hg hr⟩⟩
theorem OpsAt.low {lo' : Nat} (h : OpsAt OP IT lo v os F w) (hl : lo' ≤ lo) : OpsAt OP IT lo' v os F w :=
  ⟨own_base h.1 hl, fun i hi => by obtain ⟨P, q, e, ho⟩ := h.2 i hi; exact ⟨P, q, e, own_base ho hl⟩⟩
theorem OpsAt.snoc (h : OpsAt OP IT lo v os F w) (hne : IT ≠ OP) {k b f c : Int} {p : List Int} {A : Option Addr} {q : Nat} (hp : w.ownsRow lo IT 1 (.slice A p.length q) p.length (ints p)) (hg : w.grownBy w' v.ownBlock)
    (ho : w'.ownsRow lo OP 5 v' (os.length + 1) (C5 (fun i => (os.getD i Opr.z).cell (F i)) os.length ++ [.int .i64 k, .slice A p.length q, .int .i64 b, .int .i64 f, .int .i64 c])) :
    OpsAt OP IT lo v' (os ++ [⟨k, p, b, f, c⟩]) (fun i => if i < os.length then F i else .slice A p.length q) w' := by
  have hl : (os ++ [(⟨k, p, b, f, c⟩ : Opr)]).length = os.length + 1 := by simp
  have hlast : (os ++ [(⟨k, p, b, f, c⟩ : Opr)]).getD os.length Opr.z = ⟨k, p, b, f, c⟩ := by simp [List.getD_eq_getElem?_getD]
  have hold : ∀ i, i < os.length → (os ++ [(⟨k, p, b, f, c⟩ : Opr)]).getD i Opr.z = os.getD i Opr.z := fun i hi => by simp [List.getD_eq_getElem?_getD, List.getElem?_append, hi]
  refine ⟨?_, fun i hi => ?_⟩
  · rw [hl, C5_snoc (F := fun i => (os.getD i Opr.z).cell (F i)) (fun i j hi hj => by dsimp only; rw [hold i hi, if_pos hi])]
    dsimp only
    rw [hlast, if_neg (Nat.lt_irrefl _)]
    exact ho
  · rw [hl] at hi
    rcases Nat.lt_succ_iff_lt_or_eq.1 hi with hi | rfl
    · obtain ⟨P, q', e, hpo⟩ := h.2 i hi
      rw [hold i hi]
      dsimp only
      rw [if_pos hi]
      exact ⟨P, q', e, hpo.kept hg (own_types hpo h.1 hne)⟩
    · rw [hlast]
      dsimp only
      rw [if_neg (Nat.lt_irrefl _)]
      exact ⟨A, q, rfl, hp.kept hg (own_types hp h.1 hne)⟩
theorem OpsAt.in_ {A : Option Addr} {n c : Nat} (h : OpsAt OP IT lo (.slice A n c) os F w) : n = os.length ∧ OpsIn w w.heap.size A os.length os := by
  have hn : n = os.length := by
    rcases h.1.2 with ⟨e, h0⟩ | ⟨g, cap, cur, e, _⟩
    · injection e with _ e2 _; omega
    · injection e
  refine ⟨hn, rfl, fun h0 => ?_, fun ad e i hi => ?_⟩
  · subst hn
    obtain ⟨g, rfl, _, hg⟩ := own_form h.1 h0
    exact ⟨_, rfl, hg⟩
  · subst hn
    obtain ⟨g, e', _, hg⟩ := own_form h.1 (by omega)
    subst e'
    obtain rfl : (⟨g, 0, none⟩ : Addr) = ad := by injection e
    have ha (k : Nat) : (⟨g, 0, none⟩ : Addr).add k = ⟨g, k, none⟩ := by simp only [Addr.add]; split <;> simp_all
    obtain ⟨P, q, eF, hp⟩ := h.2 i hi
    have c1 := own_c5 h.1 hi (show 1 < 5 by decide)
    rw [eF] at c1 hp
    refine ⟨P, q, ⟨?_, ?_, ?_, ?_, ?_⟩, IntIn.of_own hp⟩
    · rw [ha]; exact own_c5 h.1 hi (show 0 < 5 by decide)
    · rw [ha]; exact c1
    · rw [ha]; exact own_c5 h.1 hi (show 2 < 5 by decide)
    · rw [ha]; exact own_c5 h.1 hi (show 3 < 5 by decide)
    · rw [ha]; exact own_c5 h.1 hi (show 4 < 5 by decide)
end

end Go.Proofs.Ytgkkeejhfofcaaa

/- The contracts of the model's draws: a cursor over the bytes of a code; each draw is a function of the code and of where the cursor stands. -/
namespace Go.Proofs.Ytgkkeejhfofcaaa
open Go.RowKit
set_option linter.unusedVariables false

/-- the cursor in block B: the code v, how many of its bytes are used, the mixed number -/
def Cur (w : World) (B : Nat) (v : Value) (i : Nat) (h : Int) : Prop := w.heap[B]? = some (.cells #[v, .int .i64 i, .int .i64 h] 139 (0, 0))
/-- the code: a slice of bytes that came in, below block B -/
def CodeIn (w : World) (B : Nat) (a : Option Addr) (cs : List Int) : Prop :=
  ∀ j, j < cs.length → ∃ b off, a = some ⟨b, off, none⟩ ∧ b < B ∧ w.cell? ⟨b, off + j, none⟩ = some (.int .u8 (cs.getD j 0)) ∧ 0 ≤ cs.getD j 0 ∧ cs.getD j 0 < 256

theorem Cur.at0 {w : World} {B : Nat} {v : Value} {i : Nat} {h : Int} (c : Cur w B v i h) : w.cell? ⟨B, 0, none⟩ = some v := by
  unfold Cur at c; simp [World.cell?, c]
theorem Cur.at1 {w : World} {B : Nat} {v : Value} {i : Nat} {h : Int} (c : Cur w B v i h) : w.cell? ⟨B, 1, none⟩ = some (.int .i64 i) := by
  unfold Cur at c; simp [World.cell?, c]
theorem Cur.at2 {w : World} {B : Nat} {v : Value} {i : Nat} {h : Int} (c : Cur w B v i h) : w.cell? ⟨B, 2, none⟩ = some (.int .i64 h) := by
  unfold Cur at c; simp [World.cell?, c]
theorem Cur.free {w : World} {B : Nat} {v : Value} {i : Nat} {h : Int} (c : Cur w B v i h) (o : Nat) : w.frozen? ⟨B, o, none⟩ = false := by
  unfold Cur at c; simp [World.frozen?, c]
theorem Cur.set2 {w : World} {B : Nat} {v : Value} {i : Nat} {h : Int} (c : Cur w B v i h) (h' : Int) : Cur (w.setCell ⟨B, 2, none⟩ (.int .i64 h')) B v i h' := by
  unfold Cur at c ⊢; simp [World.setCell, Array.getElem?_modify, c]
theorem Cur.set1 {w : World} {B : Nat} {v : Value} {i : Nat} {h : Int} (c : Cur w B v i h) (i' : Nat) : Cur (w.setCell ⟨B, 1, none⟩ (.int .i64 i')) B v i' h := by
  unfold Cur at c ⊢; simp [World.setCell, Array.getElem?_modify, c]
theorem Cur.drewN {w : World} {B : Nat} {v : Value} {i : Nat} {h : Int} (c : Cur w B v i h) (n : Nat) : Cur (w.drewN n) B v i h := c

/-- a code: where it lies, its bytes, the slice's capacity -/
structure Code where
  a : Option Addr
  cs : List Int
  cap : Nat
def CurAt (w : World) (B : Nat) (k : Code) (s : Nat × Int) : Prop := Cur w B (.slice k.a k.cs.length k.cap) s.1 s.2 ∧ CodeIn w B k.a k.cs ∧ k.cs.length ≤ 1048576
theorem CodeIn.grown {w w' : World} {B : Nat} {a : Option Addr} {cs : List Int} {r : Option Nat} (h : CodeIn w B a cs) (hg : w.grownBy w' r) (hr : ∀ k, r = some k → B ≤ k) : CodeIn w' B a cs := by
  intro j hj
  obtain ⟨b, off, h1, h2, h3, h4⟩ := h j hj
  refine ⟨b, off, h1, h2, ?_, h4⟩
  have hlt : b < w.heap.size := by
    rcases Nat.lt_or_ge b w.heap.size with h' | h'
    · exact h'
    · simp [World.cell?, Array.getElem?_eq_none h'] at h3
  rw [World.cell?_of_block (w := w) (hg.block b hlt (by intro e; have := hr b e.symm; omega))]
  exact h3
/-- what others do leaves the cursor alone -/
theorem CurAt.kept {w w' : World} {B : Nat} {k : Code} {s : Nat × Int} {r : Option Nat} (h : CurAt w B k s) (hg : w.grownBy w' r) (hr : ∀ g, r = some g → B < g) : CurAt w' B k s := by
  refine ⟨?_, h.2.1.grown hg (fun g hg => Nat.le_of_lt (hr g hg)), h.2.2⟩
  have hc := h.1
  unfold Cur at hc ⊢
  have hlt : B < w.heap.size := by
    rcases Nat.lt_or_ge B w.heap.size with h' | h'
    · exact h'
    · rw [Array.getElem?_eq_none h'] at hc; cases hc
  rw [hg.block B hlt (by intro e; have := hr B e.symm; omega), hc]
theorem CurAt.lt {w : World} {B : Nat} {k : Code} {s : Nat × Int} (h : CurAt w B k s) : B < w.heap.size := by
  have hc := h.1
  unfold Cur at hc
  rcases Nat.lt_or_ge B w.heap.size with h' | h'
  · exact h'
  · rw [Array.getElem?_eq_none h'] at hc; cases hc
theorem CurAt.alloc {w : World} {B : Nat} {k : Code} {s : Nat × Int} (h : CurAt w B k s) (o : Obj) : CurAt (w.alloc o) B k s :=
  h.kept (r := none) ⟨rfl, rfl, rfl, by simp, fun k hk _ => Below.heap_alloc _ _ _ hk⟩ (fun _ h => by cases h)

/-- the next mixed number, and the byte that it gives by itself -/
def Draw.mix (h : Int) : Int := wrap64 (wrap64 (h * 6364136223846793005) + 1442695040888963407)
def Draw.hi (h : Int) : Int := bits .and .i64 (bits .xor .i64 (Draw.mix h / 8589934592) (Draw.mix h / 35184372088832)) 255
theorem Draw.hi_bd (h : Int) : 0 ≤ Draw.hi h ∧ Draw.hi h ≤ 255 := by unfold Draw.hi; rw [Kit.i64_and255]; omega
/-- the next byte of a draw, and where the cursor stands then -/
def Draw.byte (cs : List Int) (s : Nat × Int) : Int × (Nat × Int) :=
  if s.1 < cs.length then (bits .and .i64 (Draw.hi s.2 + cs.getD s.1 0) 255, (s.1 + 1, Draw.mix s.2)) else (Draw.hi s.2, (s.1, Draw.mix s.2))
theorem Draw.byte_bd (cs : List Int) (s : Nat × Int) : 0 ≤ (Draw.byte cs s).1 ∧ (Draw.byte cs s).1 ≤ 255 := by
  unfold Draw.byte; split
  · simp only [Kit.i64_and255]; omega
  · exact Draw.hi_bd _

set_option maxHeartbeats 400000 in
theorem l1Byte_any (w : World) (B : Nat) (k : Code) (s : Nat × Int) (c : CurAt w B k s) :
    Calls Try.prog 147 #[.pointer (some ⟨B, 0, none⟩)] w fun e w' => e = .returned (.int .i64 (Draw.byte k.cs s).1) ∧ CurAt w' B k (Draw.byte k.cs s).2 ∧ w.grownBy w' (some B) := by
  obtain ⟨c, hcode, hlen⟩ := c
  obtain ⟨a, cs, cap⟩ := k
  obtain ⟨i, h⟩ := s
  simp only at c hcode hlen ⊢
  have c0 := c.at0
  have c1 := c.at1
  have c2 := c.at2
  have f1 := c.free 1
  have f2 := c.free 2
  by_cases hi : i < cs.length
  · obtain ⟨b, off, rfl, hbB, hcell, hx0, hx1⟩ := hcode i hi
    have hb : Draw.byte cs (i, h) = (bits .and .i64 (Draw.hi h + cs.getD i 0) 255, (i + 1, Draw.mix h)) := by unfold Draw.byte; rw [if_pos (by exact hi)]
    have Hb := Lib.hid hb
    have hbd := Draw.hi_bd h
    unfold Draw.hi Draw.mix at hbd
    obtain ⟨x, hx⟩ : ∃ x, x = cs.getD i 0 := ⟨_, rfl⟩
    rw [← hx] at hcell hx0 hx1 Hb
    have Hc := Lib.hid c
    have Hcode := Lib.hid hcode
    clear hb hx c hcode
    go_enter Try.func147, Try.ntmps147
    go_wp2
    go_quiet (fail)
    go_wp2
    go_quiet (fail)
    go_wp2
    go_quiet (fail)
    go_wp2
    go_ret
    rw [Hb.out]
    have hg : ∀ r, r = some B → ∀ k, r = some k → B ≤ k := fun r h k hk => by rw [h] at hk; injection hk with hk; omega
    refine ⟨rfl, ⟨((Hc.out.set2 (Draw.mix h)).drewN _).set1 (i + 1), ?_, hlen⟩, ?_⟩
    · refine CodeIn.grown (r := some B) Hcode.out ?_ (hg _ rfl)
      repeat (first | exact Kit.grown_refl _ _ | apply Kit.grown_then_drewN | apply Kit.grown_then_set)
    · repeat (first | exact Kit.grown_refl _ _ | apply Kit.grown_then_drewN | apply Kit.grown_then_set)
  · have hb : Draw.byte cs (i, h) = (Draw.hi h, (i, Draw.mix h)) := by unfold Draw.byte; rw [if_neg (by exact hi)]
    have Hb := Lib.hid hb
    have Hc := Lib.hid c
    have Hcode := Lib.hid hcode
    clear hb c hcode
    go_enter Try.func147, Try.ntmps147
    go_wp2
    go_quiet (fail)
    go_wp2
    go_quiet (fail)
    go_wp2
    go_ret
    rw [Hb.out]
    have hg : ∀ r, r = some B → ∀ k, r = some k → B ≤ k := fun r h k hk => by rw [h] at hk; injection hk with hk; omega
    refine ⟨rfl, ⟨((Hc.out.set2 (Draw.mix h)).drewN _).drewN _, ?_, hlen⟩, ?_⟩
    · refine CodeIn.grown (r := some B) Hcode.out ?_ (hg _ rfl)
      repeat (first | exact Kit.grown_refl _ _ | apply Kit.grown_then_drewN | apply Kit.grown_then_set)
    · repeat (first | exact Kit.grown_refl _ _ | apply Kit.grown_then_drewN | apply Kit.grown_then_set)

/-- a number from 0 to n-1 -/
def Draw.below (cs : List Int) (n : Int) (s : Nat × Int) : Int × (Nat × Int) :=
  if n ≤ 0 then (0, s) else if n ≤ 256 then ((Draw.byte cs s).1 % n, (Draw.byte cs s).2) else
    let x := Draw.byte cs s
    let y := Draw.byte cs x.2
    let z := Draw.byte cs y.2
    let t := Draw.byte cs z.2
    ((x.1 * 16777216 + y.1 * 65536 + z.1 * 256 + t.1) % n, t.2)
theorem Draw.below_bd (cs : List Int) (n : Int) (s : Nat × Int) (hn : 0 < n) : 0 ≤ (Draw.below cs n s).1 ∧ (Draw.below cs n s).1 < n := by
  unfold Draw.below
  rw [if_neg (by omega)]
  split
  · exact ⟨Int.emod_nonneg _ (by omega), Int.emod_lt_of_pos _ hn⟩
  · exact ⟨Int.emod_nonneg _ (by omega), Int.emod_lt_of_pos _ hn⟩
theorem Draw.below_zero (cs : List Int) (n : Int) (s : Nat × Int) (hn : n ≤ 0) : Draw.below cs n s = (0, s) := by unfold Draw.below; rw [if_pos hn]

set_option maxHeartbeats 400000 in
theorem l1Below_any (w : World) (B : Nat) (k : Code) (n : Int) (s : Nat × Int) (c : CurAt w B k s) :
    Calls Try.prog 110 #[.pointer (some ⟨B, 0, none⟩), .int .i64 n] w fun e w' => e = .returned (.int .i64 (Draw.below k.cs n s).1) ∧ CurAt w' B k (Draw.below k.cs n s).2 ∧ w.grownBy w' (some B) := by
  have Hc := Lib.hid c
  clear c
  by_cases h0 : n ≤ 0
  · have Hb := Lib.hid (Draw.below_zero k.cs n s h0)
    go_enter Try.func110, Try.ntmps110
    go_wp2
    go_ret
    rw [Hb.out]
    exact ⟨rfl, Hc.out, Kit.grown_refl _ _⟩
  · by_cases h256 : n ≤ 256
    · have hb : Draw.below k.cs n s = ((Draw.byte k.cs s).1 % n, (Draw.byte k.cs s).2) := by unfold Draw.below; rw [if_neg h0, if_pos h256]
      have Hb := Lib.hid hb
      clear hb
      have hbd := Draw.byte_bd k.cs s
      go_enter Try.func110, Try.ntmps110
      go_wp2_with fail
      refine (l1Byte_any _ B k s Hc.out).mono ?_
      rintro e w1 ⟨rfl, c1, g1⟩
      have C1 := Lib.hid c1
      clear c1
      go_wp2
      go_ret
      rw [Hb.out]
      exact ⟨rfl, C1.out, g1⟩
    · obtain ⟨X, hX⟩ : ∃ X, X = Draw.byte k.cs s := ⟨_, rfl⟩
      obtain ⟨Y, hY⟩ : ∃ Y, Y = Draw.byte k.cs X.2 := ⟨_, rfl⟩
      obtain ⟨Z, hZ⟩ : ∃ Z, Z = Draw.byte k.cs Y.2 := ⟨_, rfl⟩
      obtain ⟨T, hT⟩ : ∃ T, T = Draw.byte k.cs Z.2 := ⟨_, rfl⟩
      have hb : Draw.below k.cs n s = ((X.1 * 16777216 + Y.1 * 65536 + Z.1 * 256 + T.1) % n, T.2) := by
        subst hT hZ hY hX
        unfold Draw.below; rw [if_neg h0, if_neg h256]
      have Hb := Lib.hid hb
      have bX := Draw.byte_bd k.cs s
      have bY := Draw.byte_bd k.cs X.2
      have bZ := Draw.byte_bd k.cs Y.2
      have bT := Draw.byte_bd k.cs Z.2
      rw [← hX] at bX
      rw [← hY] at bY
      rw [← hZ] at bZ
      rw [← hT] at bT
      have HX := Lib.hid hX
      have HY := Lib.hid hY
      have HZ := Lib.hid hZ
      have HT := Lib.hid hT
      clear hX hY hZ hT hb
      go_enter Try.func110, Try.ntmps110
      go_wp2_with fail
      refine (l1Byte_any _ B k s Hc.out).mono ?_
      rintro e w1 ⟨rfl, c1, g1⟩
      rw [← HX.out] at c1 ⊢
      have C1 := Lib.hid c1
      clear c1
      go_wp2_with fail
      refine (l1Byte_any _ B k X.2 C1.out).mono ?_
      rintro e w2 ⟨rfl, c2, g2⟩
      rw [← HY.out] at c2 ⊢
      have C2 := Lib.hid c2
      clear c2
      go_wp2_with fail
      refine (l1Byte_any _ B k Y.2 C2.out).mono ?_
      rintro e w3 ⟨rfl, c3, g3⟩
      rw [← HZ.out] at c3 ⊢
      have C3 := Lib.hid c3
      clear c3
      go_wp2_with fail
      refine (l1Byte_any _ B k Z.2 C3.out).mono ?_
      rintro e w4 ⟨rfl, c4, g4⟩
      rw [← HT.out] at c4 ⊢
      have C4 := Lib.hid c4
      clear c4
      go_wp2
      go_ret
      rw [Hb.out]
      exact ⟨rfl, C4.out, Kit.grown_trans g1 (Kit.grown_trans g2 (Kit.grown_trans g3 g4))⟩

end Go.Proofs.Ytgkkeejhfofcaaa
