/- Small facts over any program: a string of one byte, sums of strings. -/
import Derived.WalkKit
import Derived.WalkSpells
import Derived.WalkLawsBesides
import Derived.Lib.Hide
namespace Go.Proofs.Ytbdhhmcebjpgeaa.Kit
open Go.RowKit

/-- string([]byte{x}) -/
theorem conv1 {P : Program} (w : World) (src dst e : TypeId) (x : Int) (h0 : 0 ≤ x) (h1 : x < 256) (hs : P.underlying src = some (.slice e)) (he : P.underlying e = some (.int .u8)) (hd : P.underlying dst = some .string) :
    (convert src dst (.slice (some ⟨w.heap.size, 0, none⟩) 1 1)).run P (w.alloc (.cells #[.int .u8 x] e)) = .ok (.string ⟨#[UInt8.ofNat x.toNat]⟩) (w.alloc (.cells #[.int .u8 x] e)) := by
  have hx : ((UInt8.ofNat x.toNat).toNat : Int) = x := by
    rw [UInt8.toNat_ofNat']; omega
  exact run_convert_bytes_back (P := P) (w.alloc (.cells #[.int .u8 x] e)) src dst e ⟨w.heap.size, 0, none⟩ 1 [UInt8.ofNat x.toNat] hs he hd (fun j hj => by
    have hj0 : j = 0 := by simpa using hj
    subst hj0
    simp [Addr.add, go_sem]
    omega)

/-- the byte ahead of a string -/
theorem cons_bytes (b : UInt8) (l : List UInt8) : (ByteArray.mk #[b] ++ ByteArray.mk l.toArray) = ByteArray.mk (b :: l).toArray := by
  have := ByteArray.mk_append_mk [b] l
  simpa using this

end Go.Proofs.Ytbdhhmcebjpgeaa.Kit
