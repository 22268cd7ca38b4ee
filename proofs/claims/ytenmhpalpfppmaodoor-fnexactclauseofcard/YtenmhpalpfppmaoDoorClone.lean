/- strings.Clone hands back the same bytes, and nothing that was there has turned. -/
import Derived.Test.YtenmhpalpfppmaoDoorRows
import Derived.Test.YtenmhpalpfppmaoDoorCln
import Derived.WalkKit
import Derived.WalkSpells
namespace Go.Proofs.YtenmhpalpfppmaoDoor
open Go.RowKit

theorem clone_any (s : ByteArray) (w : World) (hlim : s.size ≤ 1048576) :
    Calls Tryd.prog 54 #[.string s] w fun e w' => e = .returned (.string s) ∧ Below w.heap.size w w' := by
  go_enter Tryd.func54, Tryd.ntmps54
  go_wp2_with (go_at_call 77; refine (sh_stringslite_Clone _ _ (by omega)).mono ?_; rintro e w1 ⟨rfl, hb⟩)
  go_ret
  exact ⟨rfl, hb⟩
end Go.Proofs.YtenmhpalpfppmaoDoor
