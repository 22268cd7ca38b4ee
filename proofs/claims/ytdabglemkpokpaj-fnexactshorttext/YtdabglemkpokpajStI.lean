/- The code's ShortText. -/
import Derived.Test.YtdabglemkpokpajVarI
import Derived.Laws.Concat
namespace Go.Proofs.Ytdabglemkpokpaj
open Go.RowKit

theorem add_var (s : ByteArray) (hs : s.size ≤ 20000) (u : World) :
    (Op.stringOp .add ⟨(varB s.size).toArray⟩ s).run Try.prog u = .ok (.string (⟨(varB s.size).toArray⟩ ++ s)) u :=
  run_string_add_sum u _ _ (by
      have e : (⟨(varB s.size).toArray⟩ : ByteArray).size = (varB s.size).length := size_mk _
      have := varB_len s.size
      omega)

theorem implSt_yes (s : ByteArray) (w : World) (hs : s.size ≤ 20000) :
    Calls Try.prog 11 #[.string s] w fun e w' => e = .returned (.tuple #[.string (⟨(varB s.size).toArray⟩ ++ s), .bool true]) ∧ Below w.heap.size w w' := by
  have hadd := add_var s hs
  go_enter Try.func11, Try.ntmps11
  go_wp2_with ((go_at_call 20; refine (implVar_yes _ _ (by omega) (by omega)).mono ?_; rintro e w1 ⟨rfl, hb⟩))
  go_ret2
  exact ⟨rfl, hb⟩

theorem implSt_no (s : ByteArray) (w : World) (hs : 20000 < s.size) :
    Calls Try.prog 11 #[.string s] w fun e w' => e = .returned (.tuple #[.string ⟨#[]⟩, .bool false]) ∧ w' = w := by
  go_enter Try.func11, Try.ntmps11
  go_wp2
  go_ret2
  exact ⟨rfl, rfl⟩

end Go.Proofs.Ytdabglemkpokpaj
