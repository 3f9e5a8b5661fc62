/- Texts of one claim laid into one file, in build order: SubS, ShS, NearD. -/
import Derived.Test.YtgkkeejhfofcaaaHf10
import Derived.Test.YtgkkeejhfofcaaaHf2
import Derived.Test.YtgkkeejhfofcaaaHf3
import Derived.Test.YtgkkeejhfofcaaaHf4
import Derived.Test.YtgkkeejhfofcaaaHf8
import Derived.Deep.RegionHeld3
import Derived.Outline
/- Contracts (SubS). -/
namespace Go.Proofs.Ytgkkeejhfofcaaa
open Go.RowKit
set_option linter.unusedVariables false

theorem info_ndS : (Try.prog.info? 47).map (fun i => (i.zero, i.size, i.bytes)) = some (some (.agg #[.int .i64 0, .int .i64 0]), 2, 16) := by kernel_rfl

end Go.Proofs.Ytgkkeejhfofcaaa

/- Contracts (ShS). -/
namespace Go.Proofs.Ytgkkeejhfofcaaa
open Go.RowKit
set_option linter.unusedVariables false

set_option maxHeartbeats 800000 in
set_option maxRecDepth 100000 in
theorem l13Shift_any (A : Option Addr) (n c : Nat) (xs : Tr) (f t : Nat) (dd : Int) (w : World) (h : NdIn w w.heap.size A n xs) (hn : n ≤ 1048576) (hok : Tr.ok xs = true) (hft : f ≤ t) (ht : t ≤ n) (hd : -4000 ≤ dd ∧ dd ≤ 4000) :
    Calls Try.prog 81 #[.slice A n c, .int .i64 (f : Int), .int .i64 (t : Int), .int .i64 dd] w (OwnNodes 47 (Tr.sh xs f t dd) w) := by
  have H := Lib.hid h
  clear h
  have HL := Lib.hid H.out.1
  have hbd := Lib.hid fun k => Tr.ok_at (xs := xs) hok (k := k)
  have HS := Lib.hid (fun (k : Nat) (h : f ≤ k) => Tr.sh_succ xs (f := f) (t := k) dd h)
  clear hok
  obtain ⟨i0, hi, hz0, hz1, hz2⟩ := info_parts info_ndS
  go_enter Try.func81, Try.ntmps81
  go_wp2
  go_loopw [10, 9] (fun kv ov wr => ∃ k : Nat, f ≤ k ∧ k ≤ t ∧ kv = .int .i64 k ∧ wr.ownsRow w.heap.size 47 2 ov (Tr.sh xs f k dd).length (Tr.cells (Tr.sh xs f k dd)) ∧ Below w.heap.size w wr) (fun k _ _ => n - (intOf k).toNat)
  case atStart => exact ⟨f, by omega, by omega, rfl, by rw [Tr.sh_nil]; exact World.ownsRow_lit w #[] 0 (Nat.le_refl _) (Nat.zero_le _) rfl, (Below.refl _ _).alloc (Nat.le_refl _) _⟩
  case round =>
    obtain ⟨k, hjk, hk, rfl, hown, hB⟩ := hrel
    have hz := Lib.hid (H.out.to_below hB)
    have Ho := Lib.hid hown
    have HB := Lib.hid hB
    have hsz2 := HB.out.size
    clear hown hB
    by_cases hlt : k < t
    · obtain ⟨ad, rfl, hb, hl, hd⟩ := hz.out.at_ (k := k) (by omega)
      have Hs := Lib.hid (HS.out k hjk)
      have Hlen := Lib.hid (Tr.sh_len xs f k dd)
      have hk0 : (0 : Int) ≤ (k : Int) := by omega
      have hbk := (hbd.out k (by rw [HL.out]; omega)).2.1
      have hklt : (k : Int) < (n : Int) := by omega
      have a5 : IntKind.i64.wrap (Tr.d xs k + dd) = Tr.d xs k + dd := Kit.w64 (by omega) (by omega)
      go_wp2
      go_region_law ((refine step_append_node wr.drew rfl _ _ 24 rfl w.heap.size 47 i0 Try.underlying24 hi hz0 hz1 hz2 u9 (Tr.sh xs f k dd).length (Tr.sh xs f k dd) rfl Ho.out.drew rfl (Tr.l xs k) (Tr.d xs k + dd) rfl (by rw [Hlen.out]; omega) hsz2 ?_; intro v' w3 hown3 hgrow3))
      all_goals
        clear a5
        have hb3 := Kit.below_own HB.out.drew Ho.out.drew hgrow3
        go_wp2
        go_roundw
        case rel => exact ⟨k + 1, by omega, by omega, by go_num, by rw [Hs.out]; exact hown3, hb3⟩
        case measure => simp [intOf]; omega
    · obtain rfl : k = t := by omega
      obtain ⟨A', c', rfl⟩ := own_slice Ho.out
      go_wp2
      go_ret
      exact ⟨A', c', rfl, Ho.out, HB.out⟩

end Go.Proofs.Ytgkkeejhfofcaaa

/- Contracts (NearD). -/
namespace Go.Proofs.Ytgkkeejhfofcaaa
open Go.RowKit
set_option linter.unusedVariables false

theorem grown_drewN {w w' : World} {r : Option Nat} (h : w.grownBy w' r) (n : Nat) : w.grownBy (w'.drewN n) r := ⟨h.os, h.tape, h.output, h.size, h.block⟩
theorem CurX.drawn {w1 w2 : World} {B : Nat} {k : Code} (h : CurX w1 B k) (hd : Drawn w1 w2) : CurX w2 B k := by obtain ⟨m, rfl⟩ := hd; exact h.drewN m
set_option maxHeartbeats 800000 in
set_option maxRecDepth 100000 in
theorem l3Copy_ex (ad : Addr) (n c : Nat) (xs : Tr) (w : World) (h : NdIn w w.heap.size (some ad) n xs) (hn : n ≤ 1048576) :
    Calls Try.prog 54 #[.slice (some ad) n c] w fun e w' => ∃ A' c', e = .returned (.slice A' n c') ∧ w'.ownsRow w.heap.size 47 2 (.slice A' n c') n (Tr.cells xs) ∧ w.grownBy w' none := by
  have H := Lib.hid h
  clear h
  have HL := Lib.hid H.out.1
  obtain ⟨i0, hi, hz0, hz1, hz2⟩ := info_parts info_ndD
  go_enter Try.func54, Try.ntmps54
  go_wp2_with (at_builtin; refine wpList_append_own (World.alloc w (.cells #[] 47)) rfl _ _ 24 rfl w.heap.size 47 i0 (.agg #[.int .i64 0, .int .i64 0]) 2 16 Try.underlying24 hi hz0 hz1 hz2 rfl (by omega) (.slice (some ⟨w.heap.size, 0, none⟩) 0 0) 0 [] rfl (World.ownsRow_lit w #[] 0 (Nat.le_refl _) (Nat.zero_le _) rfl) ad n c (Tr.cells xs) rfl (by rw [Tr.cells_length, HL.out]) (NdIn.cells_at (H.out.to_below ((Below.refl _ _).alloc (Nat.le_refl _) _))) (Tr.cells_cell xs) (by unfold maxLen; omega) (by omega) (by simp) ?_; intro v' w1 hown1 hgrow1 hnil1)
  clear hnil1
  have hown2 : w1.ownsRow w.heap.size 47 2 v' n (Tr.cells xs) := by simpa using hown1
  obtain ⟨A', c', rfl⟩ := own_slice hown2
  have hg : w.grownBy w1 none := (Kit.grown_alloc w (.cells #[] 47) none).andThen hgrow1 (fun j hj => .inl (by simp [Value.ownBlock] at hj; omega))
  go_ret
  exact ⟨A', c', rfl, hown2, hg⟩
section
variable {B b0 m cp g2 : Nat} {k : Code} {ys : Tr} {w0 wx wq : World}
end
section
variable {B b0 m cp g2 o : Nat} {k : Code} {ys : Tr} {w0 wx wq : World} {u : Option Value}
end
theorem step_append_nodes {P : Program} {ops : Array Oper} {o : Oper} {a : Act} (w : World) {K : Act → World → Prop} {Q : Exit → Act → World → Prop} {E : Prop} (hgd : o.guard = none) (s x : Operand) (t : TypeId)
    (ho : o.op = .call { callee := .builtin .append, args := #[s, x], argTypes := #[t, t] })
    (base : Nat) (e : TypeId) (i : TypeInfo) (ht : P.underlying t = some (.slice e)) (hi : P.info? e = some i) (hz : i.zero = some (.agg #[.int .i64 0, .int .i64 0]))
    (hsize : i.size = 2) (hby : i.bytes = 16) (v : Value) (n m N : Nat) (l zs : Tr) (hs : a.eval s = v) (hown : w.ownsRow base e 2 v n (Tr.cells l))
    {B : Nat} (ad : Addr) (c : Nat) (hx : a.eval x = .slice (some ad) m c) (hin : NdIn w B (some ad) m zs) (hN : n + m = N)
    (h63 : N ≤ 1073741824) (hbase : base ≤ w.heap.size)
    (h : ∀ v' w', w'.ownsRow base e 2 v' N (Tr.cells (l ++ zs)) → w.grownBy w' v.ownBlock → K (a.put o.dst v') w') :
    if Region.wanted o (yielded ops a.tmps) = true then Oper.wp P o a w K Q else E := by
  have hw : Region.wanted o (yielded ops a.tmps) = true := by simp [Region.wanted, hgd]
  rw [if_pos hw]
  subst hN
  refine wp_append_own _ s x t ho base e i (.agg #[.int .i64 0, .int .i64 0]) 2 16 ht hi hz hsize hby rfl (by decide) v n (Tr.cells l) hs hown ad m c (Tr.cells zs) hx (by rw [Tr.cells_length, hin.1]) hin.cells_at (Tr.cells_cell _) (by unfold maxLen; omega) (by omega) hbase ?_
  intro v' w' h2 h3 _
  refine h v' w' ?_ h3
  rw [Tr.cells_append]
  exact h2
end Go.Proofs.Ytgkkeejhfofcaaa
