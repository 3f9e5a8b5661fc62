/- Texts of one claim laid into one file, in build order: OsH, Cb10, OsE, C5, OsT. -/
import Derived.Test.YtgkkeejhfofcaaaHa10
import Derived.Test.YtgkkeejhfofcaaaHa2
import Derived.Deep.RegionHeld3
import Derived.Laws.Entries
import Derived.Laws.MakeOwn
/- Contracts (OsH). -/
namespace Go.Proofs.Ytgkkeejhfofcaaa
open Go.RowKit
set_option linter.unusedVariables false

/-- values and steps of the first i operations' paths -/
def Os.tot (os : List Opr) : Nat → Nat
  | 0 => 0
  | i + 1 => Os.tot os i + (os.getD i Opr.z).p.length
theorem Os.tot_mono (os : List Opr) {i j : Nat} (h : i ≤ j) : Os.tot os i ≤ Os.tot os j := by
  induction j with
  | zero => obtain rfl : i = 0 := by omega
            exact Nat.le_refl _
  | succ j ih =>
    rcases Nat.lt_or_ge i (j + 1) with h' | h'
    · have := ih (by omega)
      have e : Os.tot os (j + 1) = Os.tot os j + (os.getD j Opr.z).p.length := rfl
      omega
    · obtain rfl : i = j + 1 := by omega
      exact Nat.le_refl _
theorem Os.tot_one (os : List Opr) {i j : Nat} (h : i < j) : (os.getD i Opr.z).p.length ≤ Os.tot os j := by
  have := Os.tot_mono os (show i + 1 ≤ j from h)
  have e : Os.tot os (i + 1) = Os.tot os i + (os.getD i Opr.z).p.length := rfl
  omega
set_option maxHeartbeats 1600000 in
set_option maxRecDepth 100000 in
theorem szOpS_any (A : Option Addr) (n c : Nat) (os : List Opr) (left : Int) (w : World) (h : OpsIn w w.heap.size A n os) (hn : n ≤ 9223372036854775807) (hp : ∀ i, (os.getD i Opr.z).p.length ≤ 9223372036854775807) (h0 : 0 ≤ left) (h1 : left ≤ 1048576) :
    Calls Try.prog 41 #[.slice A n c, .int .i64 left] w fun e w' => e = .returned (.int .i64 (if ((n + Os.tot os n : Nat) : Int) ≤ left then left - ((n + Os.tot os n : Nat) : Int) else -1)) ∧ Below w.heap.size w w' := by
  have H := Lib.hid h
  have HP := Lib.hid hp
  clear h hp
  obtain ⟨N, hN⟩ : ∃ N, N = Os.tot os n := ⟨_, rfl⟩
  have HM := Lib.hid (show ∀ i, i ≤ n → Os.tot os i ≤ N from fun i hi => by rw [hN]; exact Os.tot_mono os hi)
  have HNN := Lib.hid hN.symm
  rw [← hN]
  obtain ⟨Z, hZ⟩ : ∃ Z : Int, Z = if ((n + N : Nat) : Int) ≤ left then left - ((n + N : Nat) : Int) else -1 := ⟨_, rfl⟩
  rw [← hZ]
  have HZ := Lib.hid hZ
  clear hN hZ
  have a5 : IntKind.i64.wrap (left - (n : Int)) = left - (n : Int) := Kit.w64 (by omega) (by omega)
  by_cases hb : left < (n : Int)
  · have q : decide (left - (n : Int) < 0) = true := decide_eq_true (by omega)
    go_enter Try.func41, Try.ntmps41
    go_wp2
    go_ret
    exact ⟨Kit.ret_int (by rw [HZ.out, if_neg (by omega)]), Below.refl _ _⟩
  · have q : decide (left - (n : Int) < 0) = false := decide_eq_false (by omega)
    go_enter Try.func41, Try.ntmps41
    go_wp2
    go_loopw [5, 1] (fun iv lv wr => ∃ i : Nat, i ≤ n ∧ iv = .int .i64 i ∧ lv = .int .i64 (left - (n : Int) - (Os.tot os i : Int)) ∧ (n : Int) + (Os.tot os i : Int) ≤ left ∧ Below w.heap.size w wr) (fun i _ _ => n - (intOf i).toNat)
    case atStart => exact ⟨0, by omega, by go_num, by simp [Os.tot], by simp [Os.tot]; omega, Below.refl _ _⟩
    case round =>
      obtain ⟨i, hi, rfl, rfl, hle, hB⟩ := hrel
      have HB := Lib.hid hB
      have HO := Lib.hid (H.out.to_below hB)
      have hti := HM.out i hi
      clear hB
      by_cases hlt : i < n
      · obtain ⟨ad, P, pq, rfl, y0, y1, y2, y3, y4, -⟩ := HO.out.at_ hlt
        have hts := HM.out (i + 1) hlt
        have HT := Lib.hid (show Os.tot os (i + 1) = Os.tot os i + (os.getD i Opr.z).p.length from rfl)
        have HPi := Lib.hid (HP.out i)
        obtain ⟨o, ho⟩ : ∃ o, o = os.getD i Opr.z := ⟨_, rfl⟩
        rw [← ho] at y0 y1 y2 y3 y4 HT HPi
        rw [HT.out] at hts
        clear ho
        obtain ⟨T, hT⟩ : ∃ T, T = Os.tot os i := ⟨_, rfl⟩
        obtain ⟨m, hm⟩ : ∃ m, m = o.p.length := ⟨_, rfl⟩
        rw [← hT, ← hm] at HT hts
        rw [← hT] at hle hti ⊢
        rw [← hm] at y1 HPi
        have Hm := Lib.hid hm
        have HTT := Lib.hid hT
        clear hT hm
        have b0 : (0 : Int) ≤ (i : Int) := by omega
        have b1 : (i : Int) < (n : Int) := by omega
        by_cases hc : (m : Int) ≤ left - (n : Int) - (T : Int)
        · go_wp2_with (go_loud (go_at_call 100; refine (szOp_any _ _ _ _ _ _ _ _ _ HPi.out (by omega) (by omega)).mono ?_; rintro e w2 ⟨rfl, hb2⟩; rw [if_pos hc]; have HB2 := Lib.hid (HB.out.trans (hb2.mono HB.out.size)); have q2 : decide (left - (n : Int) - (T : Int) - (m : Int) < 0) = false := (decide_eq_false (by omega))))
          go_roundw
          case rel => exact ⟨i + 1, by omega, by go_num, by rw [HT.out]; congr 1; omega, by rw [HT.out]; omega, HB2.out⟩
          case measure => simp [intOf]; omega
        · go_wp2_with (go_loud (go_at_call 100; refine (szOp_any _ _ _ _ _ _ _ _ _ HPi.out (by omega) (by omega)).mono ?_; rintro e w2 ⟨rfl, hb2⟩; rw [if_neg hc]; have HB2 := Lib.hid (HB.out.trans (hb2.mono HB.out.size))))
          go_ret
          exact ⟨Kit.ret_int (by rw [HZ.out, if_neg (by omega)]), HB2.out⟩
      · obtain rfl : i = n := by omega
        rw [HNN.out] at hle hti ⊢
        go_wp2
        go_ret
        exact ⟨Kit.ret_int (by rw [HZ.out, if_pos (by omega)]; omega), HB.out⟩

end Go.Proofs.Ytgkkeejhfofcaaa

/- Contracts (Cb10). -/
namespace Go.Proofs.Ytgkkeejhfofcaaa
open Go.RowKit
set_option linter.unusedVariables false

section
variable {wa wx wy : World} {p0 p1 p2 p3 p4 p5 p6 p7 p8 p9 : Addr} {v0 v1 v2 v3 v4 v5 v6 v7 v8 v9 : Value}
theorem c10_below (h : wx.cell? p0 = some v0 ∧ wx.cell? p1 = some v1 ∧ wx.cell? p2 = some v2 ∧ wx.cell? p3 = some v3 ∧ wx.cell? p4 = some v4 ∧ wx.cell? p5 = some v5 ∧ wx.cell? p6 = some v6 ∧ wx.cell? p7 = some v7 ∧ wx.cell? p8 = some v8 ∧ wx.cell? p9 = some v9 ∧ BelA wa wx) : Below wa.heap.size wa wx := h.2.2.2.2.2.2.2.2.2.2
theorem c10_keep (h : wx.cell? p0 = some v0 ∧ wx.cell? p1 = some v1 ∧ wx.cell? p2 = some v2 ∧ wx.cell? p3 = some v3 ∧ wx.cell? p4 = some v4 ∧ wx.cell? p5 = some v5 ∧ wx.cell? p6 = some v6 ∧ wx.cell? p7 = some v7 ∧ wx.cell? p8 = some v8 ∧ wx.cell? p9 = some v9 ∧ BelA wa wx) (hb : Below wx.heap.size wx wy) : wy.cell? p0 = some v0 ∧ wy.cell? p1 = some v1 ∧ wy.cell? p2 = some v2 ∧ wy.cell? p3 = some v3 ∧ wy.cell? p4 = some v4 ∧ wy.cell? p5 = some v5 ∧ wy.cell? p6 = some v6 ∧ wy.cell? p7 = some v7 ∧ wy.cell? p8 = some v8 ∧ wy.cell? p9 = some v9 ∧ BelA wa wy := by
  have c : ∀ {p : Addr} {v : Value}, wx.cell? p = some v → wy.cell? p = some v := fun hc => (hb.cell (World.block_lt_of_cell? _ _ hc)).trans hc
  exact ⟨c h.1, c h.2.1, c h.2.2.1, c h.2.2.2.1, c h.2.2.2.2.1, c h.2.2.2.2.2.1, c h.2.2.2.2.2.2.1, c h.2.2.2.2.2.2.2.1, c h.2.2.2.2.2.2.2.2.1, c h.2.2.2.2.2.2.2.2.2.1, h.2.2.2.2.2.2.2.2.2.2.trans (hb.mono h.2.2.2.2.2.2.2.2.2.2.size)⟩
end

end Go.Proofs.Ytgkkeejhfofcaaa

/- Contracts (OsE). -/
namespace Go.Proofs.Ytgkkeejhfofcaaa
open Go.RowKit
set_option linter.unusedVariables false

set_option maxHeartbeats 3200000 in
set_option maxRecDepth 100000 in
theorem eqOpS_any (A A' : Option Addr) (n c c' : Nat) (os : List Opr) (w : World) (h : OpsIn w w.heap.size A n os) (h' : OpsIn w w.heap.size A' n os) (hn : n ≤ 1048576) (hp : ∀ i, (os.getD i Opr.z).p.length ≤ 1048576) :
    Calls Try.prog 34 #[.slice A n c, .slice A' n c'] w fun e w' => e = .returned (.bool true) ∧ Below w.heap.size w w' := by
  have H := Lib.hid h
  have H' := Lib.hid h'
  have HP := Lib.hid hp
  clear h h' hp
  go_enter Try.func34, Try.ntmps34
  go_wp2
  go_loopw [5] (fun iv wr => ∃ i : Nat, i ≤ n ∧ iv = .int .i64 i ∧ Below w.heap.size w wr) (fun i _ => n - (intOf i).toNat)
  case atStart => exact ⟨0, by omega, by go_num, Below.refl _ _⟩
  case round =>
    obtain ⟨i, hi, rfl, hB⟩ := hrel
    have HB := Lib.hid hB
    have HO := Lib.hid (H.out.to_below hB)
    have HO' := Lib.hid (H'.out.to_below hB)
    clear hB
    by_cases hlt : i < n
    · obtain ⟨ad, P, pq, rfl, y0, y1, y2, y3, y4, hI⟩ := HO.out.at_ hlt
      obtain ⟨bd, P', pq', rfl, z0, z1, z2, z3, z4, hI'⟩ := HO'.out.at_ hlt
      have HPi := Lib.hid (HP.out i)
      obtain ⟨o, ho⟩ : ∃ o, o = os.getD i Opr.z := ⟨_, rfl⟩
      rw [← ho] at y0 y1 y2 y3 y4 z0 z1 z2 z3 z4 HPi hI hI'
      clear ho
      obtain ⟨K, p, Ka, Kf, Kz⟩ := o
      dsimp only at y0 y1 y2 y3 y4 z0 z1 z2 z3 z4 HPi hI hI'
      have HI := Lib.hid hI
      have HI' := Lib.hid hI'
      have b0 : (0 : Int) ≤ (i : Int) := by omega
      have b1 : (i : Int) < (n : Int) := by omega
      have S0 := Lib.hid (show wr.drew.cell? (ad.add (i * 5)) = some (.int .i64 K) ∧ wr.drew.cell? ⟨(ad.add (i * 5)).block, (ad.add (i * 5)).off + 1, none⟩ = some (.slice P p.length pq) ∧ wr.drew.cell? ⟨(ad.add (i * 5)).block, (ad.add (i * 5)).off + 2, none⟩ = some (.int .i64 Ka) ∧ wr.drew.cell? ⟨(ad.add (i * 5)).block, (ad.add (i * 5)).off + 3, none⟩ = some (.int .i64 Kf) ∧ wr.drew.cell? ⟨(ad.add (i * 5)).block, (ad.add (i * 5)).off + 4, none⟩ = some (.int .i64 Kz) ∧ wr.drew.cell? (bd.add (i * 5)) = some (.int .i64 K) ∧ wr.drew.cell? ⟨(bd.add (i * 5)).block, (bd.add (i * 5)).off + 1, none⟩ = some (.slice P' p.length pq') ∧ wr.drew.cell? ⟨(bd.add (i * 5)).block, (bd.add (i * 5)).off + 2, none⟩ = some (.int .i64 Ka) ∧ wr.drew.cell? ⟨(bd.add (i * 5)).block, (bd.add (i * 5)).off + 3, none⟩ = some (.int .i64 Kf) ∧ wr.drew.cell? ⟨(bd.add (i * 5)).block, (bd.add (i * 5)).off + 4, none⟩ = some (.int .i64 Kz) ∧ BelA wr wr.drew from ⟨y0, y1, y2, y3, y4, z0, z1, z2, z3, z4, (Drawn.refl _).drew.toBelow⟩)
      have CE := Lib.hid (fun (wq : World) (hb : Below wr.heap.size wr wq) => eqOp_any K Ka Kf Kz p P P' p.length pq p.length pq' wq (HI.out.to_below hb) (HI'.out.to_below hb) HPi.out HPi.out)
      clear hI hI' y0 y1 y2 y3 y4 z0 z1 z2 z3 z4
      go_wp2_with fail
      go_region_held3 (fun wq => wq.cell? (ad.add (i * 5)) = some (.int .i64 K) ∧ wq.cell? ⟨(ad.add (i * 5)).block, (ad.add (i * 5)).off + 1, none⟩ = some (.slice P p.length pq) ∧ wq.cell? ⟨(ad.add (i * 5)).block, (ad.add (i * 5)).off + 2, none⟩ = some (.int .i64 Ka) ∧ wq.cell? ⟨(ad.add (i * 5)).block, (ad.add (i * 5)).off + 3, none⟩ = some (.int .i64 Kf) ∧ wq.cell? ⟨(ad.add (i * 5)).block, (ad.add (i * 5)).off + 4, none⟩ = some (.int .i64 Kz) ∧ wq.cell? (bd.add (i * 5)) = some (.int .i64 K) ∧ wq.cell? ⟨(bd.add (i * 5)).block, (bd.add (i * 5)).off + 1, none⟩ = some (.slice P' p.length pq') ∧ wq.cell? ⟨(bd.add (i * 5)).block, (bd.add (i * 5)).off + 2, none⟩ = some (.int .i64 Ka) ∧ wq.cell? ⟨(bd.add (i * 5)).block, (bd.add (i * 5)).off + 3, none⟩ = some (.int .i64 Kf) ∧ wq.cell? ⟨(bd.add (i * 5)).block, (bd.add (i * 5)).off + 4, none⟩ = some (.int .i64 Kz) ∧ BelA wr wq) (first | (with_reducible exact SD) | (with_reducible exact S0.out)) (first | (go_at_call 95; refine (CE.out _ (c10_below (by assumption))).mono ?_; rintro e w5 ⟨rfl, hb5⟩; have SD := c10_keep S0.out hb5))
      have HB2 := Lib.hid (HB.out.trans ((c10_below SD).mono HB.out.size))
      clear SD
      go_wp2
      go_roundw
      case rel => exact ⟨i + 1, by omega, by go_num, HB2.out⟩
      case measure => simp [intOf]; omega
    · obtain rfl : i = n := by omega
      go_wp2
      go_ret
      exact ⟨rfl, HB.out⟩

end Go.Proofs.Ytgkkeejhfofcaaa

/- Contracts (C5). -/
namespace Go.Proofs.Ytgkkeejhfofcaaa
open Go.RowKit
set_option linter.unusedVariables false

/-- cells of a row of n elements of five cells -/
def C5 (F : Nat → Nat → Value) (n : Nat) : List Value := (List.range (n * 5)).map fun p => F (p / 5) (p % 5)
theorem C5_len (F : Nat → Nat → Value) (n : Nat) : (C5 F n).length = n * 5 := by simp [C5]
theorem C5_get {F : Nat → Nat → Value} {n i j : Nat} (hi : i < n) (hj : j < 5) : (C5 F n)[i * 5 + j]? = some (F i j) := by
  have h : i * 5 + j < n * 5 := by omega
  unfold C5
  rw [List.getElem?_map, List.getElem?_range h]
  show some (F ((i * 5 + j) / 5) ((i * 5 + j) % 5)) = _
  rw [show (i * 5 + j) / 5 = i by omega, show (i * 5 + j) % 5 = j by omega]
theorem C5_ext {F G : Nat → Nat → Value} {n : Nat} (h : ∀ i j, i < n → j < 5 → F i j = G i j) : C5 F n = C5 G n := by
  unfold C5
  refine List.map_congr_left fun p hp => h _ _ ?_ ?_
  · have := List.mem_range.1 hp; omega
  · omega
/-- one cell stored -/
theorem C5_set {F : Nat → Nat → Value} {n i j : Nat} (hj : j < 5) (v : Value) : (C5 F n).set (i * 5 + j) v = C5 (fun a b => if a = i ∧ b = j then v else F a b) n := by
  refine List.ext_getElem (by simp [C5]) fun p h1 h2 => ?_
  rw [C5_len] at h2
  simp only [C5, List.getElem_set, List.getElem_map, List.getElem_range]
  by_cases e : i * 5 + j = p
  · rw [if_pos e, if_pos (by omega)]
  · rw [if_neg e, if_neg (by omega)]
theorem C5_set0 {F : Nat → Nat → Value} {n i : Nat} (v : Value) : (C5 F n).set (i * 5) v = C5 (fun a b => if a = i ∧ b = 0 then v else F a b) n := C5_set (j := 0) (by decide) v
/-- the cells of operations whose paths' values are given -/
def Opr.cell (o : Opr) (u : Value) : Nat → Value
  | 0 => .int .i64 o.k
  | 1 => u
  | 2 => .int .i64 o.a
  | 3 => .int .i64 o.f
  | _ => .int .i64 o.c
def Opr.zcell : Nat → Value
  | 1 => .slice none 0 0
  | _ => .int .i64 0
theorem own_c5 {w : World} {base n g cap : Nat} {e : TypeId} {F : Nat → Nat → Value} (h : w.ownsRow base e 5 (.slice (some ⟨g, 0, none⟩) n cap) n (C5 F n)) {i j : Nat} (hi : i < n) (hj : j < 5) : w.cell? ⟨g, i * 5 + j, none⟩ = some (F i j) := by
  rw [h.cellAt _ (by omega), C5_get hi hj]
theorem made_ops (n : Nat) : (madeCells (Value.agg #[.int .i64 0, .slice none 0 0, .int .i64 0, .int .i64 0, .int .i64 0]).cells (n * 5)).toList = C5 (fun _ j => Opr.zcell j) n := by
  refine List.ext_getElem (by simp [madeCells, C5]) fun p h1 h2 => ?_
  rw [C5_len] at h2
  simp only [C5, List.getElem_map, List.getElem_range]
  have h5 : p % 5 = 0 ∨ p % 5 = 1 ∨ p % 5 = 2 ∨ p % 5 = 3 ∨ p % 5 = 4 := by omega
  rcases h5 with h5 | h5 | h5 | h5 | h5 <;> simp [madeCells, h5, Value.cells, Opr.zcell]
theorem info_op5 : (Try.prog.info? 39).map (fun i => (i.zero, i.size, i.bytes)) = some (some (.agg #[.int .i64 0, .slice none 0 0, .int .i64 0, .int .i64 0, .int .i64 0]), 5, 56) := by kernel_rfl

end Go.Proofs.Ytgkkeejhfofcaaa

/- Contracts (OsT). -/
namespace Go.Proofs.Ytgkkeejhfofcaaa
open Go.RowKit
set_option linter.unusedVariables false

/-- an own row of operations, each path in a row of its own, in turn of the blocks -/
def OsOwn (w : World) (base : Nat) (v : Value) (n : Nat) (os : List Opr) (G : Nat → Nat) : Prop :=
  w.ownsRow base 39 5 v n (C5 (fun i => (os.getD i Opr.z).cell (.slice (some ⟨G i, 0, none⟩) (os.getD i Opr.z).p.length (os.getD i Opr.z).p.length)) n) ∧ os.length = n ∧
  (∀ i, i < n → w.ownsRow base 3 1 (.slice (some ⟨G i, 0, none⟩) (os.getD i Opr.z).p.length (os.getD i Opr.z).p.length) (os.getD i Opr.z).p.length (ints (os.getD i Opr.z).p)) ∧ (∀ i j, i < j → j < n → G i < G j)
/-- .. the first k made -/
def OsPart (w : World) (base : Nat) (v : Value) (n k : Nat) (os : List Opr) (G : Nat → Nat) : Prop :=
  w.ownsRow base 39 5 v n (C5 (fun i => if i < k then (os.getD i Opr.z).cell (.slice (some ⟨G i, 0, none⟩) (os.getD i Opr.z).p.length (os.getD i Opr.z).p.length) else Opr.zcell) n) ∧
  (∀ i, i < k → w.ownsRow (base + 1) 3 1 (.slice (some ⟨G i, 0, none⟩) (os.getD i Opr.z).p.length (os.getD i Opr.z).p.length) (os.getD i Opr.z).p.length (ints (os.getD i Opr.z).p)) ∧ (∀ i, i < k → base < G i ∧ G i < w.heap.size) ∧ (∀ i j, i < j → j < k → G i < G j)
set_option maxHeartbeats 3200000 in
set_option maxRecDepth 100000 in
theorem toOpS_any (A : Option Addr) (n c : Nat) (os : List Opr) (w : World) (h : OpsIn w w.heap.size A n os) (hn : n ≤ 1048576) (hp : ∀ i, (os.getD i Opr.z).p.length ≤ 1048576) :
    Calls Try.prog 43 #[.slice A n c] w fun e w' => ∃ G, e = .returned (.slice (some ⟨w.heap.size, 0, none⟩) n n) ∧ OsOwn w' w.heap.size (.slice (some ⟨w.heap.size, 0, none⟩) n n) n os G ∧ Below w.heap.size w w' := by
  have H := Lib.hid h
  have HP := Lib.hid hp
  have HL := Lib.hid h.1
  clear h hp
  obtain ⟨i0, hi0, hz0, hz1, hz2⟩ := info_parts info_op5
  go_enter Try.func43, Try.ntmps43
  go_wp2_with (at_make; refine wpList_make_full _ rfl _ _ 34 rfl w.heap.size 39 i0 (.agg #[.int .i64 0, .slice none 0 0, .int .i64 0, .int .i64 0, .int .i64 0]) 5 Try.underlying34 hi0 hz0 hz1 _ _ _ _ n rfl rfl rfl rfl (by rw [hz2]; omega) (by unfold maxLen; omega) (Nat.le_refl _) ?_; intro w1 hown1 hgrow1)
  have hb1 : Below w.heap.size w w1 := (Below.refl _ w).grown hgrow1 (Nat.le_refl _) (fun _ h => by cases h)
  rw [made_ops] at hown1
  have HO1 := Lib.hid hown1
  have HB1 := Lib.hid hb1
  clear hown1 hgrow1 hb1
  go_loopw [4] (fun iv wr => ∃ (k : Nat) (G : Nat → Nat), k ≤ n ∧ iv = .int .i64 k ∧ OsPart wr w.heap.size (.slice (some ⟨w.heap.size, 0, none⟩) n n) n k os G ∧ Below w.heap.size w wr) (fun i _ => n - (intOf i).toNat)
  case atStart => exact ⟨0, fun _ => 0, by omega, by go_num, ⟨by simpa using HO1.out, fun i hi => absurd hi (Nat.not_lt_zero i), fun i hi => absurd hi (Nat.not_lt_zero i), fun i j _ hj => absurd hj (Nat.not_lt_zero j)⟩, HB1.out⟩
  case round =>
    obtain ⟨k, G, hk, rfl, hown, hB⟩ := hrel
    have HB := Lib.hid hB
    have HO := Lib.hid (H.out.to_below hB)
    have HW := Lib.hid hown
    clear hown hB
    by_cases hlt : k < n
    · obtain ⟨ad, P, pq, rfl, y0, y1, y2, y3, y4, hI⟩ := HO.out.at_ hlt
      have HPi := Lib.hid (HP.out k)
      have HI := Lib.hid hI
      obtain ⟨o, ho⟩ : ∃ o, o = os.getD k Opr.z := ⟨_, rfl⟩
      rw [← ho] at y0 y1 y2 y3 y4 HPi HI
      have Ho := Lib.hid ho
      clear hI ho
      have b0 : (0 : Int) ≤ (k : Int) := by omega
      have b1 : (k : Int) < (n : Int) := by omega
      go_wp2_with (go_loud (go_at_call 101; refine (toOp_any _ _ _ _ o.p _ _ _ _ HI.out HPi.out).mono ?_; rintro e w2 ⟨g, rfl, ho2, hb2, hg2⟩; have HO2 := Lib.hid ho2; have HB2 := Lib.hid hb2; have HG2 := Lib.hid hg2; clear ho2 hb2 hg2; have hown2 := own_below HW.out.1 HB2.out; have d0 := own_c5 hown2 hlt (show 0 < 5 by decide); have d1 := own_c5 hown2 hlt (show 1 < 5 by decide); have d2 := own_c5 hown2 hlt (show 2 < 5 by decide); have d3 := own_c5 hown2 hlt (show 3 < 5 by decide); have d4 := own_c5 hown2 hlt (show 4 < 5 by decide); rw [if_neg (Nat.lt_irrefl k)] at d0 d1 d2 d3 d4; have f0 := hown2.frozenAt (k * 5); have f1 := hown2.frozenAt (k * 5 + 1); have f2 := hown2.frozenAt (k * 5 + 2); have f3 := hown2.frozenAt (k * 5 + 3); have f4 := hown2.frozenAt (k * 5 + 4); have d0 : w2.cell? ⟨w.heap.size, k * 5, none⟩ = some (.int .i64 0) := d0; have d1 : w2.cell? ⟨w.heap.size, k * 5 + 1, none⟩ = some (.slice none 0 0) := d1; have d2 : w2.cell? ⟨w.heap.size, k * 5 + 2, none⟩ = some (.int .i64 0) := d2; have d3 : w2.cell? ⟨w.heap.size, k * 5 + 3, none⟩ = some (.int .i64 0) := d3; have d4 : w2.cell? ⟨w.heap.size, k * 5 + 4, none⟩ = some (.int .i64 0) := d4; have D := Lib.hid (And.intro d1 (And.intro d2 (And.intro d3 (And.intro d4 (And.intro f1 (And.intro f2 (And.intro f3 f4)))))))))
      obtain ⟨d1, d2, d3, d4, f1, f2, f3, f4⟩ := D.out
      have no (i j : Nat) (hij : i ≠ j) : (⟨w.heap.size, k * 5 + i, none⟩ : Addr) ≠ ⟨w.heap.size, k * 5 + j, none⟩ := fun e => by injection e with _ e; omega
      have no0 (j : Nat) (hj : 0 ≠ j) : (⟨w.heap.size, k * 5, none⟩ : Addr) ≠ ⟨w.heap.size, k * 5 + j, none⟩ := fun e => by injection e with _ e; omega
      go_roundw
      case rel =>
        have hsw := HB.out.size
        have hlw := (HW.out.1.lt w.heap.size rfl).2
        have hg2 := HG2.out
        have hgl := (HO2.out.lt g rfl).2
        have hs2 := HB2.out.size
        have st (wv : World) (b : Nat) (P : Value) (m2 : Nat) (zs : List Int) (off : Nat) (u : Value) (hb : P.ownBlock = none ∨ P.ownBlock ≠ some w.heap.size) (h : wv.ownsRow b 3 1 P m2 (ints zs)) : (wv.setCell ⟨w.heap.size, off, none⟩ u).ownsRow b 3 1 P m2 (ints zs) := own_apart h (Kit.grown_set _ _ _ _) hb
        have st5 (b : Nat) (g' : Nat) (m2 : Nat) (zs : List Int) (hg : w.heap.size < g') (h : w2.ownsRow b 3 1 (.slice (some ⟨g', 0, none⟩) m2 m2) m2 (ints zs)) : (((((w2.setCell ⟨w.heap.size, k * 5, none⟩ (.int .i64 o.k)).setCell ⟨w.heap.size, k * 5 + 1, none⟩ (.slice (some ⟨g, 0, none⟩) o.p.length o.p.length)).setCell ⟨w.heap.size, k * 5 + 2, none⟩ (.int .i64 o.a)).setCell ⟨w.heap.size, k * 5 + 3, none⟩ (.int .i64 o.f)).setCell ⟨w.heap.size, k * 5 + 4, none⟩ (.int .i64 o.c)).ownsRow b 3 1 (.slice (some ⟨g', 0, none⟩) m2 m2) m2 (ints zs) := by
          have hne : (Value.slice (some (⟨g', 0, none⟩ : Addr)) m2 m2).ownBlock = none ∨ (Value.slice (some (⟨g', 0, none⟩ : Addr)) m2 m2).ownBlock ≠ some w.heap.size := .inr fun e => by simp only [Value.ownBlock] at e; injection e with e; omega
          exact st _ _ _ _ _ _ _ hne (st _ _ _ _ _ _ _ hne (st _ _ _ _ _ _ _ hne (st _ _ _ _ _ _ _ hne (st _ _ _ _ _ _ _ hne h))))
        obtain ⟨q1, q2, q3, q4⟩ := HW.out
        refine ⟨k + 1, fun i => if i = k then g else G i, by omega, by go_num, ⟨?_, fun i hi => ?_, fun i hi => ?_, fun i j hij hj => ?_⟩, ?_⟩
        · have r := (own_below q1 HB2.out)
          have r5 := ((((((r.stored (k * 5) (.int .i64 o.k)).1.stored (k * 5 + 1) (.slice (some ⟨g, 0, none⟩) o.p.length o.p.length)).1.stored (k * 5 + 2) (.int .i64 o.a)).1.stored (k * 5 + 3) (.int .i64 o.f)).1.stored (k * 5 + 4) (.int .i64 o.c)).1)
          rw [C5_set0, C5_set (j := 1) (by decide), C5_set (j := 2) (by decide), C5_set (j := 3) (by decide), C5_set (j := 4) (by decide)] at r5
          refine Eq.mp ?_ r5
          congr 1
          refine C5_ext fun i j hi hj => ?_
          by_cases e : i = k
          · subst e
            rw [← Ho.out]
            rcases (show j = 0 ∨ j = 1 ∨ j = 2 ∨ j = 3 ∨ j = 4 by omega) with rfl | rfl | rfl | rfl | rfl <;> simp [Opr.cell]
          · simp [e, show i < k + 1 ↔ i < k by omega]
        · by_cases e : i = k
          · subst e
            simp only [if_pos]
            rw [← Ho.out]
            exact st5 _ _ _ _ (by omega) (own_base HO2.out (by omega))
          · simp only [if_neg e]
            exact st5 _ _ _ _ (q3 i (by omega)).1 (own_below (q2 i (by omega)) HB2.out)
        · by_cases e : i = k
          · subst e
            simp only [if_pos]
            exact ⟨by omega, by simpa using hgl⟩
          · simp only [if_neg e]
            have := q3 i (by omega)
            exact ⟨this.1, by simp; omega⟩
        · by_cases e : j = k
          · subst e
            have := q3 i (by omega)
            simp only [if_neg (show ¬ i = j by omega), if_pos]
            omega
          · simp only [if_neg e, if_neg (show ¬ i = k by omega)]
            exact q4 i j hij (by omega)
        · have hb := HB.out.trans (HB2.out.mono hsw)
          exact ((((hb.setCell (p := ⟨w.heap.size, k * 5, none⟩) (Nat.le_refl _) _).setCell (p := ⟨w.heap.size, k * 5 + 1, none⟩) (Nat.le_refl _) _).setCell (p := ⟨w.heap.size, k * 5 + 2, none⟩) (Nat.le_refl _) _).setCell (p := ⟨w.heap.size, k * 5 + 3, none⟩) (Nat.le_refl _) _).setCell (p := ⟨w.heap.size, k * 5 + 4, none⟩) (Nat.le_refl _) _
      case measure => simp [intOf]; omega
    · obtain rfl : k = n := by omega
      go_wp2
      go_ret
      refine ⟨G, rfl, ⟨?_, HL.out, fun i hi => own_base (HW.out.2.1 i hi) (Nat.le_succ _), HW.out.2.2.2⟩, HB.out⟩
      rw [C5_ext (G := fun i => if i < k then (os.getD i Opr.z).cell (.slice (some ⟨G i, 0, none⟩) (os.getD i Opr.z).p.length (os.getD i Opr.z).p.length) else Opr.zcell) (fun i j hi _ => by rw [if_pos hi])]
      exact HW.out.1

end Go.Proofs.Ytgkkeejhfofcaaa
