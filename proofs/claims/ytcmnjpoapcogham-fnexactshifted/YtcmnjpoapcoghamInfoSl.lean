/- A slice of terms takes one cell. -/
import Derived.Test.YtcmnjpoapcoghamRows
import Derived.WalkKit
import Derived.ProofKit
namespace Go.Proofs.Ytcmnjpoapcogham
open Go.RowKit

theorem infoSl : (Try.prog.info? 26).map (fun i => (i.zero, i.size, i.bytes)) = some (some (.slice none 0 0), 1, 24) := by kernel_rfl
end Go.Proofs.Ytcmnjpoapcogham
