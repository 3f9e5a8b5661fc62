/- Closed facts of this seat's program. -/
import Derived.Test.YtkccnlcghlkioaaRows
import Derived.Test.YtkccnlcghlkioaaKit
namespace Go.Proofs.Ytkccnlcghlkioaa
open Go.RowKit
theorem info_u8 : (Try.prog.info? 5).map (fun i => (i.zero, i.size, i.bytes)) = some (some (.int .u8 0), 1, 1) := by kernel_rfl
end Go.Proofs.Ytkccnlcghlkioaa
