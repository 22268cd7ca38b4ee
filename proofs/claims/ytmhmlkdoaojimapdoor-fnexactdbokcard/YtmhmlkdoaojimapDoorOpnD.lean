/- Rows of strings, and the two cells of a Db. -/
import Derived.Test.YtmhmlkdoaojimapDoorMrg11
namespace Go.Proofs.YtmhmlkdoaojimapDoor
open Go.RowKit

theorem strWt_le {xs : List ByteArray} {x : ByteArray} (h : x ∈ xs) : x.size ≤ strWts xs := by
  induction xs with
  | nil => cases h
  | cons a r ih =>
    simp only [strWts]
    rcases List.mem_cons.1 h with rfl | h
    · omega
    · have := ih h; omega

theorem owns_ss {w : World} {sl : Value} {xs : List ByteArray} (h : w.ownsRow 0 9 1 sl xs.length (xs.map Value.string)) (hs : ∀ x ∈ xs, x.size ≤ maxLen) : SsIn w xs sl := by
  rcases h.2 with ⟨rfl, hl⟩ | ⟨g, cap, cur, rfl, _, hh, hnc, hcm, hcs, htk⟩
  · exact ⟨none, 0, by rw [hl], by omega, by unfold maxLen; omega, fun hne => absurd (List.eq_nil_of_length_eq_zero hl) hne⟩
  · refine ⟨_, cap, rfl, hnc, hcm, fun _ => ⟨g, 0, rfl, fun j hj => ⟨?_, hs _ (List.getElem_mem hj)⟩⟩⟩
    rw [Nat.zero_add]
    refine cell_of_row hh ?_
    have h1 : (xs.map Value.string)[j]? = some (.string xs[j]) := by simp [hj]
    rw [← htk, List.getElem?_take] at h1
    split at h1
    · simpa using h1
    · cases h1

theorem ownsRow_zero {w : World} {B e size n : Nat} {v : Value} {xs : List Value} (h : w.ownsRow B e size v n xs) : w.ownsRow 0 e size v n xs := by
  rcases h.2 with ⟨rfl, hl⟩ | ⟨g, cap, cur, rfl, _, hh⟩
  · exact ⟨h.1, Or.inl ⟨rfl, hl⟩⟩
  · exact ⟨h.1, Or.inr ⟨g, cap, cur, rfl, Nat.zero_le _, hh⟩⟩
theorem db_two {w1 : World} {p : Nat} {a b : Value} (hk : w1.heap[p]? = some (.cells #[.slice none 0 0, .slice none 0 0] 30 (0, 0))) : ((w1.setCell ⟨p, 0, none⟩ a).setCell ⟨p, 1, none⟩ b).heap[p]? = some (.cells #[a, b] 30 (0, 0)) := by
  simpa using blk_set (i := 1) (blk_set (i := 0) hk a) b

/-- the clauses and names that come back, in memory of their own -/
def DbOut (w : World) (cs : List Cla) (xs : List ByteArray) (e : Ending) (w' : World) : Prop :=
  ∃ sl F k g, e = .returned (.agg #[sl, .slice (some ⟨g, 0, none⟩) xs.length k]) ∧ OwnClS 57 46 w' cs sl F ∧ w'.ownsRow 0 9 1 (.slice (some ⟨g, 0, none⟩) xs.length k) xs.length (xs.map Value.string) ∧
      (∀ f ∈ F, w.heap.size ≤ f) ∧ F.Nodup ∧ w.heap.size ≤ g ∧ g ∉ F ∧ Below w.heap.size w w'

end Go.Proofs.YtmhmlkdoaojimapDoor
