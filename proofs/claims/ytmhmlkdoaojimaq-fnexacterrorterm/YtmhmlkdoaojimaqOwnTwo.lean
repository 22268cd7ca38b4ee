/- A row of two terms in memory of its own. -/
import Derived.Test.YtmhmlkdoaojimaqBlk4
namespace Go.Proofs.Ytmhmlkdoaojimaq
open Go.RowKit

/-- a row of two terms, in memory of its own -/
theorem own_two {w : World} {b : Nat} {m : ByteArray} {H B : Tm} {F G : List Nat} {c0 c1 c2 c3 c4 c5 c6 c7 : Value} (hk : w.heap[b]? = some (.cells #[c0, c1, c2, c3, c4, c5, c6, c7] 24 (0, 0))) (h1 : Own 24 w H (.agg #[c0, c1, c2, c3]) F) (h2 : Own 24 w B (.agg #[c4, c5, c6, c7]) G) (hm : m.size ≤ maxLen) :
    Own 24 w (.mk 4 m 0 [H, B]) (.agg #[.int .i64 4, .string m, .int .i64 0, .slice (some ⟨b, 0, none⟩) 2 2]) (b :: (F ++ G)) := by
  refine own_mk (Or.inr ⟨b, 2, [c0, c1, c2, c3, c4, c5, c6, c7], F ++ G, rfl, ⟨rfl, Or.inr ⟨b, 2, #[c0, c1, c2, c3, c4, c5, c6, c7], rfl, Nat.zero_le _, hk, Nat.le_refl _, by unfold maxLen; omega, rfl, rfl⟩⟩, rfl, ?_⟩) (by omega) (by omega) hm
  unfold OwnRow
  refine ⟨c0, c1, c2, c3, [c4, c5, c6, c7], F, G, rfl, rfl, h1, ?_⟩
  unfold OwnRow
  refine ⟨c4, c5, c6, c7, [], G, [], rfl, by simp, h2, ?_⟩
  unfold OwnRow
  exact ⟨rfl, rfl⟩

end Go.Proofs.Ytmhmlkdoaojimaq
