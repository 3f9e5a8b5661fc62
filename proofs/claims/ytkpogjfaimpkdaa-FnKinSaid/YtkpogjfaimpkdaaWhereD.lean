/- Contracts (WhereD). -/
import Derived.Test.YtkpogjfaimpkdaaAnyD
namespace Go.Proofs.Ytkpogjfaimpkdaa
open Go.RowKit
set_option linter.unusedVariables false

def WhereD (w : World) (B : Nat) (k : Code) (e : Ending) (w' : World) : Prop :=
  ∃ (xs : Tr) (A : Option Addr) (n cp : Nat) (i : Int), e = .returned (.tuple #[.slice A n cp, .int .i64 i]) ∧ NdAt w' w.heap.size A n xs ∧ n ≤ cp ∧ n ≤ 31 ∧ CurX w' B k ∧ w.grownBy w' (some B)
theorem NdAt.cur {w w' : World} {B B0 n : Nat} {A : Option Addr} {xs : Tr} (h : NdAt w B0 A n xs) (hB : B < B0) (hg : w.grownBy w' (some B)) : NdAt w' B0 A n xs := by
  refine ⟨⟨h.1.1, fun hn => ?_, fun ad e k hk => ?_⟩, h.2⟩
  · obtain ⟨ad, e, hb⟩ := h.1.2.1 hn
    exact ⟨ad, e, Nat.lt_of_lt_of_le hb hg.size⟩
  · obtain ⟨ad', e', hb⟩ := h.1.2.1 (by omega)
    obtain rfl : ad' = ad := by rw [e'] at e; injection e
    have hne := h.2 _ e'
    have := h.1.2.2 _ e k hk
    have q : ∀ p : Addr, p.block = ad'.block → w'.cell? p = w.cell? p := fun p hp => World.cell?_of_block (hg.block p.block (by omega) (by intro e; injection e with e; omega))
    rw [q _ (block_of_add _ _), q _ (block_of_add _ _)]
    exact this
set_option maxHeartbeats 1600000 in
set_option maxRecDepth 100000 in
theorem l3Where_ex (w : World) (B : Nat) (k : Code) (c : CurX w B k) :
    Calls Try.prog 53 #[.pointer (some ⟨B, 0, none⟩)] w (WhereD w B k) := by
  have HC := Lib.hid c
  have hBB := c.lt
  have HG := Lib.hid (Kit.grown_refl w (some B))
  clear c
  go_enter Try.func53, Try.ntmps53
  go_wp2_with fail
  refine (l3Any_ex w B k 12 (by decide) HC.out).mono ?_
  rintro e w1 ⟨xs, A, n, cp, rfl, hn, hcp, hn31, c, g⟩
  have HC := Lib.hid c
  have HG := Lib.hid (Kit.grown_trans HG.out g)
  have HN := Lib.hid hn
  clear c g hn
  go_wp2_with fail
  refine (l1Once_ex _ B k 10 HC.out).mono ?_
  rintro e w2 ⟨b, rfl, c, g⟩
  have HC := Lib.hid c
  have HG := Lib.hid (Kit.grown_trans HG.out g)
  have HN := Lib.hid (HN.out.cur hBB g)
  clear c g
  cases b with
  | true =>
    go_wp2_with fail
    refine (l1PickInt_lit w2 B k HC.out _ _ [-1, (n : Int)] 2 rfl rfl (by decide) (by decide)).mono ?_
    rintro e w3 ⟨x, rfl, c, g⟩
    have HG := Lib.hid (Kit.grown_trans HG.out g)
    have HN := Lib.hid (HN.out.cur hBB g)
    have HC := Lib.hid c
    clear c g
    go_wp2
    go_ret2
    exact ⟨xs, A, n, cp, x, rfl, HN.out, hcp, hn31, HC.out, HG.out⟩
  | false =>
    by_cases hn1 : (1 : Int) < (n : Int)
    · go_wp2_with fail
      refine (l1Below_ex _ B k _ HC.out).mono ?_
      rintro e w3 ⟨v, rfl, hv, c, g⟩
      have HC := Lib.hid c
      have HG := Lib.hid (Kit.grown_trans HG.out g)
      have HN := Lib.hid (HN.out.cur hBB g)
      clear c g
      go_wp2
      go_ret2
      exact ⟨xs, A, n, cp, v, rfl, HN.out, hcp, hn31, HC.out, HG.out⟩
    · go_wp2_with fail
      refine (l1Below_ex _ B k _ HC.out).mono ?_
      rintro e w3 ⟨v, rfl, hv, c, g⟩
      have HC := Lib.hid c
      have HG := Lib.hid (Kit.grown_trans HG.out g)
      have HN := Lib.hid (HN.out.cur hBB g)
      clear c g
      go_wp2
      go_ret2
      exact ⟨xs, A, n, cp, v, rfl, HN.out, hcp, hn31, HC.out, HG.out⟩

end Go.Proofs.Ytkpogjfaimpkdaa
