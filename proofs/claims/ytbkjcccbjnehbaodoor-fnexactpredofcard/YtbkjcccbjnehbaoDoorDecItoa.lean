/- The specification's Decimal, too. -/
import Derived.Test.YtbkjcccbjnehbaoDoorDec
import Derived.Test.YtbkjcccbjnehbaoDoorDecI
namespace Go.Proofs.YtbkjcccbjnehbaoDoor
open Go.RowKit

theorem dec_any (n : Int) (w : World) (h0 : -9223372036854775808 ≤ n) (h1 : n ≤ 9223372036854775807) :
    Calls Tryd.prog 23 #[.int .i64 n] w fun e w' => e = .returned (.string ⟨(decI n).toArray⟩) ∧ Below w.heap.size w w' := by
  unfold decI
  by_cases h : n < 0
  · rw [if_pos h]
    have := dec_neg n.natAbs w (by omega) (by omega)
    rwa [show -(n.natAbs : Int) = n by omega] at this
  · rw [if_neg h]
    have := dec_nat n.toNat w (by omega)
    rwa [show (n.toNat : Int) = n by omega] at this

end Go.Proofs.YtbkjcccbjnehbaoDoor
