/- What is left of a number of letters. Plain. -/
import Derived.WalkKit
namespace Go.Proofs.YtmhmlkdoaojimapDoor
def szR (n : Nat) (left : Nat) : Int := if n ≤ left then ((left - n : Nat) : Int) else -1
end Go.Proofs.YtmhmlkdoaojimapDoor
