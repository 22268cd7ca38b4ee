/- Weights of the clauses of one predicate. -/
import Derived.Test.YtmhmlkdoaojimapDoorMrg2
import Derived.Test.YtmhmlkdoaojimapDoorMrg9
namespace Go.Proofs.YtmhmlkdoaojimapDoor
open Go.RowKit

theorem ofPred_wts8 (q : ByteArray) (cs : List Cla) : (ofPred q cs).length ≤ cs.length ∧ claWts (ofPred q cs) ≤ claWts cs := by
  induction cs with
  | nil => simp [ofPred]
  | cons c cs ih =>
    have e : ofPred q (c :: cs) = if predB c.h = q then c :: ofPred q cs else ofPred q cs := by
      unfold ofPred
      by_cases h : predB c.h = q
      · simp [h]
      · simp [h]
    rw [e]
    split
    · simp only [List.length_cons, claWts]; omega
    · simp only [List.length_cons, claWts]; omega
theorem hWt8 {cs : List Cla} {c : Cla} (h : c ∈ cs) : c.h.wt ≤ claWts cs := by
  have h1 := claWt_le h
  have : c.wt = c.h.wt + c.b.wt + c.f.size := rfl
  omega
end Go.Proofs.YtmhmlkdoaojimapDoor
