/- The specification's figure of a number below 16. -/
import Derived.Test.YtdabglemkpokpajRows
import Derived.Test.YtdabglemkpokpajHexPlain
import Derived.WalkKit
import Derived.WalkSpells
import Derived.ProofKit
import Derived.OpenShut
namespace Go.Proofs.Ytdabglemkpokpaj
open Go.RowKit

theorem figure_any (x : Int) (w : World) (h0 : 0 ≤ x) (h1 : x < 16) :
    Calls Try.prog 22 #[.int .i64 x] w fun e w' => e = .returned (.int .u8 ((fig x.toNat).toNat : Int)) ∧ w' = w := by
  by_cases h : x < 10
  · go_enter Try.func22, Try.ntmps22
    go_wp2
    go_ret
    refine ⟨?_, rfl⟩
    congr 2
    rw [fig_nat _ (by omega), if_pos (by omega)]
    simp; omega
  · go_enter Try.func22, Try.ntmps22
    go_wp2
    go_ret
    refine ⟨?_, rfl⟩
    congr 2
    rw [fig_nat _ (by omega), if_neg (by omega)]
    simp; omega
end Go.Proofs.Ytdabglemkpokpaj
