/- The specification's figure of a number below 16. -/
import Derived.Test.YtbkjcccbjnehbaoDoorRows
import Derived.Test.YtbkjcccbjnehbaoDoorHexPlain
import Derived.WalkKit
import Derived.WalkSpells
import Derived.ProofKit
import Derived.OpenShut
namespace Go.Proofs.YtbkjcccbjnehbaoDoor
open Go.RowKit

theorem figure_any (x : Int) (w : World) (h0 : 0 ≤ x) (h1 : x < 16) :
    Calls Tryd.prog 41 #[.int .i64 x] w fun e w' => e = .returned (.int .u8 ((fig x.toNat).toNat : Int)) ∧ w' = w := by
  by_cases h : x < 10
  · go_enter Tryd.func41, Tryd.ntmps41
    go_wp2
    go_ret
    refine ⟨?_, rfl⟩
    congr 2
    rw [fig_nat _ (by omega), if_pos (by omega)]
    simp; omega
  · go_enter Tryd.func41, Tryd.ntmps41
    go_wp2
    go_ret
    refine ⟨?_, rfl⟩
    congr 2
    rw [fig_nat _ (by omega), if_neg (by omega)]
    simp; omega
end Go.Proofs.YtbkjcccbjnehbaoDoor
