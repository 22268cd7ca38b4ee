/- strings.Clone hands back the same bytes, and nothing that was there has turned. -/
import Derived.Test.YtceclkcmiaehkaoDoorRows
import Derived.Test.YtceclkcmiaehkaoDoorCln
import Derived.WalkKit
import Derived.WalkSpells
namespace Go.Proofs.YtceclkcmiaehkaoDoor
open Go.RowKit

theorem clone_any (s : ByteArray) (w : World) (hlim : s.size ≤ 1048576) :
    Calls Tryd.prog 39 #[.string s] w fun e w' => e = .returned (.string s) ∧ Below w.heap.size w w' := by
  go_enter Tryd.func39, Tryd.ntmps39
  go_wp2_with (go_at_call 43; refine (sh_stringslite_Clone _ _ (by omega)).mono ?_; rintro e w1 ⟨rfl, hb⟩)
  go_ret
  exact ⟨rfl, hb⟩
end Go.Proofs.YtceclkcmiaehkaoDoor
