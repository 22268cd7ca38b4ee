/- A region that draws its order and holds calls which make memory, but whose values do not hang on it: walked once, in the order of the text, over all worlds that are as the first one was below a block. -/
import Derived.WalkKit
import Derived.BigQuiet
namespace Go.Proofs.Ytdabglemkpokpaj
open Go.RowKit

theorem wp_region_below {P : Program} {id : Nat} {Q : Exit → Act → World → Prop} {a : Act} {w : World} {l : List Oper} (hm : P.follows .mixedOrders = true) (hB : Region.lexB .any l.toArray = true)
    (h : wpQuiet P l.toArray (fun w' => Below w.heap.size w w') (fun a' => ∀ w', Below w.heap.size w w' → Q .normal a' w') l a) : (Code.region id l.toArray true).wp P Q a w :=
  wp_region_quiet (C := fun w' => Below w.heap.size w w') hm hB ((Below.refl w.heap.size w).drew) (by simpa using h)
end Go.Proofs.Ytdabglemkpokpaj
