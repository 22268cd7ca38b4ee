/- A region that draws its order, reads memory, and holds calls which make memory, but whose values do not hang on what is made: walked once, in the order of the text, over all worlds that are as the first one was below its end. -/
import Derived.WalkKit
import Derived.BigQuiet
namespace Go.Proofs.Ytmhmlkdoaojimaq
open Go.RowKit

/-- any world that is as W was below W's end (and W itself in the place of any other) -/
noncomputable def later (W u : World) : World := @ite _ (Below W.heap.size W u) (Classical.propDecidable _) u W

theorem later_below (W u : World) : Below W.heap.size W (later W u) := by
  unfold later
  split
  · assumption
  · exact Below.refl _ _
theorem later_of {W u : World} (h : Below W.heap.size W u) : u = later W u := by
  unfold later
  rw [if_pos h]

theorem wp_region_later {P : Program} {id : Nat} {Q : Exit → Act → World → Prop} {a : Act} {w : World} {l : List Oper} (hm : P.follows .mixedOrders = true) (hB : Region.lexB .any l.toArray = true)
    (h : wpQuiet P l.toArray (fun w' => ∃ u, w' = later w u) (fun a' => ∀ w', (∃ u, w' = later w u) → Q .normal a' w') l a) : (Code.region id l.toArray true).wp P Q a w :=
  wp_region_quiet (C := fun w' => ∃ u, w' = later w u) hm hB ⟨w.drew, later_of (Below.refl w.heap.size w).drew⟩ (by simpa using h)
theorem Calls.later_of_below {P : Program} {f : FuncId} {args : Array Value} {w u : World} {v : Value} (h : Calls P f args (later w u) fun e w' => e = .returned v ∧ Below (later w u).heap.size (later w u) w') :
    Calls P f args (later w u) fun e w' => e = .returned v ∧ ∃ u', w' = later w u' :=
  h.mono fun _ w' ⟨he, hb⟩ => ⟨he, w', later_of ((later_below w u).trans (hb.mono (later_below w u).size))⟩
theorem Calls.later_of_same {P : Program} {f : FuncId} {args : Array Value} {w u : World} {v : Value} (h : Calls P f args (later w u) fun e w' => e = .returned v ∧ w' = later w u) :
    Calls P f args (later w u) fun e w' => e = .returned v ∧ ∃ u', w' = later w u' :=
  h.mono fun _ _ ⟨he, hb⟩ => ⟨he, u, hb⟩
end Go.Proofs.Ytmhmlkdoaojimaq
