/- strings.Clone hands back the same bytes, and nothing that was there has turned. -/
import Derived.Test.YtmhmlkdoaojimaqRows
import Derived.Test.YtmhmlkdoaojimaqCln
import Derived.WalkKit
import Derived.WalkSpells
namespace Go.Proofs.Ytmhmlkdoaojimaq
open Go.RowKit

theorem clone_any (s : ByteArray) (w : World) (hlim : s.size ≤ 1048576) :
    Calls Try.prog 38 #[.string s] w fun e w' => e = .returned (.string s) ∧ Below w.heap.size w w' := by
  go_enter Try.func38, Try.ntmps38
  go_wp2_with (go_at_call 49; refine (sh_stringslite_Clone _ _ (by omega)).mono ?_; rintro e w1 ⟨rfl, hb⟩)
  go_ret
  exact ⟨rfl, hb⟩
end Go.Proofs.Ytmhmlkdoaojimaq
