/- Rows in blocks of their own: a cell set, a block kept. Of no program. -/
import Derived.Test.YtcmnjpoapcoghamMrg2
namespace Go.Proofs.Ytcmnjpoapcogham
open Go.RowKit

theorem row_set {w : World} {e size n g cap i : Nat} {cs : List Value} {v : Value} (h : w.ownsRow 0 e size (.slice (some ⟨g, 0, none⟩) n cap) n cs) : (w.setCell ⟨g, i, none⟩ v).ownsRow 0 e size (.slice (some ⟨g, 0, none⟩) n cap) n (cs.set i v) := by
  refine ⟨by rw [List.length_set]; exact h.1, ?_⟩
  rcases h.2 with ⟨h, _⟩ | ⟨g', cap', cur, h1, h2, h3, h4, h5, h6, h7⟩
  · cases h
  · cases h1
    refine Or.inr ⟨g, cap, cur.setIfInBounds i v, rfl, h2, blk_set h3 v, h4, h5, by simpa using h6, ?_⟩
    rw [Array.toList_setIfInBounds, List.take_set, h7]
theorem row_set_same {w : World} {e size n g cap i : Nat} {cs : List Value} {v : Value} (h : w.ownsRow 0 e size (.slice (some ⟨g, 0, none⟩) n cap) n cs) (hi : cs[i]? = some v) : (w.setCell ⟨g, i, none⟩ v).ownsRow 0 e size (.slice (some ⟨g, 0, none⟩) n cap) n cs := by
  have := row_set (i := i) (v := v) h
  obtain ⟨h1, rfl⟩ := List.getElem?_eq_some_iff.1 hi
  rwa [List.set_getElem_self h1] at this
theorem row_lt0 {w : World} {e size n : Nat} {v : Value} {xs : List Value} (h : w.ownsRow 0 e size v n xs) {b : Nat} (hb : v.ownBlock = some b) : b < w.heap.size := by
  rcases h.2 with ⟨rfl, _⟩ | ⟨b', cap, cur, rfl, h1, h2, h3⟩
  · cases hb
  · cases hb; exact (Array.getElem?_eq_some_iff.1 h2).1
theorem row_frozen {w : World} {e size n g cap : Nat} {cs : List Value} (h : w.ownsRow 0 e size (.slice (some ⟨g, 0, none⟩) n cap) n cs) (i : Nat) : w.frozen? ⟨g, i, none⟩ = false := by
  rcases h.2 with ⟨h, _⟩ | ⟨g', cap', cur, h1, h2, h3, _⟩
  · cases h
  · cases h1; exact blk_frozen h3 i

theorem row_turn0 {w w' : World} {e size n : Nat} {v : Value} {xs : List Value} (h : w.ownsRow 0 e size v n xs) (hb : ∀ b, v.ownBlock = some b → w'.heap[b]? = w.heap[b]?) : w'.ownsRow 0 e size v n xs := by
  refine ⟨h.1, ?_⟩
  rcases h.2 with hn | ⟨b, cap, cur, e, h1, h2, h3⟩
  · exact Or.inl hn
  · exact Or.inr ⟨b, cap, cur, e, h1, (hb b (by rw [e]; rfl)).trans h2, h3⟩
end Go.Proofs.Ytcmnjpoapcogham
