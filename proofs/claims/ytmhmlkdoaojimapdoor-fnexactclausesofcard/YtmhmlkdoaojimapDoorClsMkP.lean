/- Marks over a row of clauses: what they are, and nine cells of a block turned one by one. -/
import Derived.Test.YtmhmlkdoaojimapDoorTmMarkS
import Derived.Test.YtmhmlkdoaojimapDoorMrg3
namespace Go.Proofs.YtmhmlkdoaojimapDoor
open Go.RowKit

def Cla.n (c : Cla) : Nat := 3 * c.h.n + 3 * c.b.n + 1
def Cla.markT (c : Cla) (i : Nat) : Cla := ⟨c.h.markT i, c.b.markT (i + 3 * c.h.n), ⟨(mkS (i + 3 * c.h.n + 3 * c.b.n)).toArray⟩⟩
def claNs : List Cla → Nat
  | [] => 0
  | c :: cs => c.n + claNs cs
theorem claNs_append (a b : List Cla) : claNs (a ++ b) = claNs a + claNs b := by
  induction a with
  | nil => simp [claNs]
  | cons c cs ih => simp only [List.cons_append, claNs, ih]; omega
def markCs : List Cla → Nat → List Cla
  | [], _ => []
  | c :: cs, i => c.markT i :: markCs cs (i + c.n)
theorem markCs_append (l m : List Cla) (i : Nat) : markCs (l ++ m) i = markCs l i ++ markCs m (i + claNs l) := by
  induction l generalizing i with
  | nil => simp [markCs, claNs]
  | cons c cs ih => simp only [List.cons_append, markCs, claNs, ih, Nat.add_assoc]
theorem markCs_len (l : List Cla) (i : Nat) : (markCs l i).length = l.length := by
  induction l generalizing i with
  | nil => rfl
  | cons c cs ih => simp only [markCs, List.length_cons, ih]

/-- nine cells of block g from a place on; the others are those of cur0 -/
def Nine (T : TypeId) (w : World) (g base N : Nat) (cells : List Value) (cur0 : List Value) : Prop :=
  ∃ cur : Array Value, w.heap[g]? = some (.cells cur T (0, 0)) ∧ cur.size = N ∧ cells.length = 9 ∧ base + 9 ≤ N ∧ (∀ i, i < 9 → cur[base + i]? = cells[i]?) ∧ (∀ i, (i < base ∨ base + 9 ≤ i) → cur[i]? = cur0[i]?)
theorem Nine.cell {T : TypeId} {w : World} {g base N : Nat} {cells cur0 : List Value} (h : Nine T w g base N cells cur0) {i : Nat} {v : Value} (hi : i < 9) (hv : cells[i]? = some v) : w.cell? ⟨g, base + i, none⟩ = some v ∧ w.frozen? ⟨g, base + i, none⟩ = false := by
  obtain ⟨cur, h1, h2, h3, h4, h5, h6⟩ := h
  refine ⟨?_, blk_frozen h1 _⟩
  unfold World.cell?
  simp only
  rw [h1]
  exact (h5 i hi).trans hv
theorem Nine.set {T : TypeId} {w : World} {g base N : Nat} {cells cur0 : List Value} (h : Nine T w g base N cells cur0) {i : Nat} (hi : i < 9) (d : Value) : Nine T (w.setCell ⟨g, base + i, none⟩ d) g base N (cells.set i d) cur0 := by
  obtain ⟨cur, h1, h2, h3, h4, h5, h6⟩ := h
  refine ⟨_, blk_set h1 d, by simpa using h2, by simpa using h3, h4, fun k hk => ?_, fun k hk => ?_⟩
  · rw [Array.getElem?_setIfInBounds, List.getElem?_set]
    by_cases e : i = k
    · subst e
      rw [if_pos rfl, if_pos (by omega), if_pos rfl, if_pos (by omega)]
    · rw [if_neg (by omega), if_neg e]
      exact h5 k hk
  · rw [Array.getElem?_setIfInBounds, if_neg (by omega)]
    exact h6 k hk
theorem Nine.keep {T : TypeId} {w w' : World} {g base N : Nat} {cells cur0 : List Value} (h : Nine T w g base N cells cur0) (hg : w'.heap[g]? = w.heap[g]?) : Nine T w' g base N cells cur0 := by
  obtain ⟨cur, h1, h2⟩ := h
  exact ⟨cur, hg.trans h1, h2⟩
theorem Nine.lt {T : TypeId} {w : World} {g base N : Nat} {cells cur0 : List Value} (h : Nine T w g base N cells cur0) : g < w.heap.size := by
  obtain ⟨cur, h1, _⟩ := h
  exact (Array.getElem?_eq_some_iff.1 h1).1
/-- the whole row behind it -/
theorem Nine.row {T : TypeId} {w : World} {g base N : Nat} {cells : List Value} {pre old tl : List Value} (hp : pre.length = base) (ho : old.length = 9) (h : Nine T w g base N cells (pre ++ (old ++ tl))) :
    ∃ cur : Array Value, w.heap[g]? = some (.cells cur T (0, 0)) ∧ cur.size = N ∧ cur.toList = pre ++ (cells ++ tl) := by
  obtain ⟨cur, h1, h2, h3, h4, h5, h6⟩ := h
  refine ⟨cur, h1, h2, ?_⟩
  apply List.ext_getElem?
  intro i
  rw [Array.getElem?_toList]
  by_cases c1 : i < base
  · rw [h6 i (Or.inl c1), List.getElem?_append_left (by omega), List.getElem?_append_left (by omega)]
  · by_cases c2 : i < base + 9
    · have := h5 (i - base) (by omega)
      rw [show base + (i - base) = i by omega] at this
      rw [this, List.getElem?_append_right (by omega), hp, List.getElem?_append_left (by omega)]
    · have e : ∀ x : List Value, x.length = 9 → (pre ++ (x ++ tl))[i]? = tl[i - base - 9]? := fun x hx => by
        rw [List.getElem?_append_right (by omega), hp, List.getElem?_append_right (by omega), hx]
      rw [h6 i (Or.inr (by omega)), e _ ho, e _ h3]
end Go.Proofs.YtmhmlkdoaojimapDoor
