/- A slice of terms takes one cell. -/
import Derived.Test.YtdcphfcenaafbalRows
import Derived.WalkKit
import Derived.ProofKit
namespace Go.Proofs.Ytdcphfcenaafbal
open Go.RowKit

theorem infoSl : (Try.prog.info? 27).map (fun i => (i.zero, i.size, i.bytes)) = some (some (.slice none 0 0), 1, 24) := by kernel_rfl
end Go.Proofs.Ytdcphfcenaafbal
