/- A Db held, for the laws' frames. -/
import Derived.Test.YtmhmlkdoaojimapGreatDoorDbFrM
import Derived.Test.YtmhmlkdoaojimapGreatDoorDbHeld
namespace Go.Proofs.YtmhmlkdoaojimapGreatDoor
open Go.RowKit

theorem held_dbO (cs : List Cla) (n : Nat) (w : World) (c0 c1 : Value) (h : DbMarked w cs n c0 c1) (hcm : 1 + claNs cs ≤ 1000000000) (hl : n ≤ 1100000) :
    Calls Tryz.prog 14 #[.agg #[c0, c1], .int .i64 1] w fun e w' => e = .returned (.int .i64 ((1 + claNs cs + n : Nat) : Int)) ∧ Below w.heap.size w w' :=
  held_db cs n w c0 c1 1 h.1 h.2 (by omega) hcm hl
end Go.Proofs.YtmhmlkdoaojimapGreatDoor
