/- laws.eqOp of the same sign. -/
import Derived.Test.YtecpidhdnhkooanOpI
namespace Go.Proofs.Ytecpidhdnhkooan
open Go.RowKit

set_option maxHeartbeats 1000000 in
theorem eq_op4 (s : ByteArray) (a b c : Int) (w : World) :
    Calls Try.prog 8 #[.agg #[.string s, .int .i64 a, .int .i64 b, .int .i64 c], .agg #[.string s, .int .i64 a, .int .i64 b, .int .i64 c]] w fun e w' => e = .returned (.bool true) ∧ Below w.heap.size w w' := by
  go_enter Try.func8, Try.ntmps8
  go_wp2
  go_ret
  exact ⟨rfl, ((Below.refl _ _).alloc (Nat.le_refl _) _).alloc (by simp) _⟩
theorem eq_op (o : Option OpP) (w : World) : Calls Try.prog 8 #[opV o, opV o] w fun e w' => e = .returned (.bool true) ∧ Below w.heap.size w w' := by
  cases o with
  | none => exact eq_op4 _ _ _ _ w
  | some o => exact eq_op4 _ _ _ _ w
theorem opV_form (o : Option OpP) : ∃ (s : ByteArray) (a b c : Int), opV o = .agg #[.string s, .int .i64 a, .int .i64 b, .int .i64 c] := by
  cases o with
  | none => exact ⟨_, _, _, _, rfl⟩
  | some o => exact ⟨_, _, _, _, rfl⟩
end Go.Proofs.Ytecpidhdnhkooan
