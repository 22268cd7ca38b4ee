/- Rows of numbers in blocks of their own. -/
import Derived.Test.YtcmnjpoapcoghamRows
import Derived.Test.YtcmnjpoapcoghamMrg4
import Derived.Test.YtcmnjpoapcoghamMrg2
import Derived.Test.YtcmnjpoapcoghamTmMarkP
import Derived.Test.YtcmnjpoapcoghamMrg3
import Derived.Maps.AppendAt
import Derived.ProofKit
namespace Go.Proofs.Ytcmnjpoapcogham
open Go.RowKit

abbrev ints (out : List Int) : List Value := out.map (fun x => Value.int .i64 x)
theorem infoN : (Try.prog.info? 3).map (fun i => (i.zero, i.size, i.bytes)) = some (some (.int .i64 0), 1, 8) := by kernel_rfl

/-- a row of numbers in a block of its own, above B -/
def NumRow (w : World) (B : Nat) (out : List Int) (v : Value) : Prop := w.ownsRow B 3 1 v out.length (ints out) ∧ (∀ x ∈ out, -9223372036854775808 ≤ x ∧ x ≤ 9223372036854775807)

theorem NumRow.open {w : World} {B : Nat} {out : List Int} {v : Value} (h : NumRow w B out v) : ∃ ao cap, v = .slice ao out.length cap ∧ out.length ≤ cap ∧ cap ≤ maxLen ∧ ∀ j (hj : j < out.length), ∃ g, ao = some ⟨g, 0, none⟩ ∧ w.cell? ⟨g, j, none⟩ = some (.int .i64 out[j]) := by
  rcases h.1.2 with ⟨rfl, h0⟩ | ⟨g, cap, cur, rfl, hb, hh, h1, h2, h3, h4⟩
  · refine ⟨none, 0, by rw [h0], by omega, Nat.zero_le _, fun j hj => by omega⟩
  · refine ⟨_, cap, rfl, h1, h2, fun j hj => ⟨g, rfl, ?_⟩⟩
    have := h.1.cellAt j (by omega)
    rw [this]
    simp [hj]

theorem NumRow.keep {w w' : World} {B : Nat} {out : List Int} {v : Value} (h : NumRow w B out v) (hb : Below w.heap.size w w') : NumRow w' B out v := by
  refine ⟨⟨h.1.1, ?_⟩, h.2⟩
  rcases h.1.2 with hn | ⟨g, cap, cur, e, h1, h2, h3⟩
  · exact Or.inl hn
  · exact Or.inr ⟨g, cap, cur, e, h1, (hb.block g (Array.getElem?_eq_some_iff.1 h2).1).trans h2, h3⟩

theorem NumRow.lt {w : World} {B : Nat} {out : List Int} {v : Value} (h : NumRow w B out v) {b : Nat} (hb : v.ownBlock = some b) : B ≤ b ∧ b < w.heap.size := h.1.lt b hb

theorem NumRow.turn {w w' : World} {B : Nat} {out : List Int} {v : Value} (h : NumRow w B out v) (hb : ∀ b, v.ownBlock = some b → w'.heap[b]? = w.heap[b]?) : NumRow w' B out v := by
  refine ⟨⟨h.1.1, ?_⟩, h.2⟩
  rcases h.1.2 with hn | ⟨g, cap, cur, e, h1, h2, h3⟩
  · exact Or.inl hn
  · exact Or.inr ⟨g, cap, cur, e, h1, (hb g (by rw [e]; rfl)).trans h2, h3⟩

/-- what became of a row: it stayed where it was, or came to a new block -/
def Moved (w : World) (v v' : Value) : Prop := v'.ownBlock = v.ownBlock ∨ ∃ z, v'.ownBlock = some z ∧ w.heap.size ≤ z

theorem out_row {W wr w' : World} {v0 v : Value} (h : Out v0.ownBlock.toList W wr) (hm : Moved W v0 v) (h2 : Out v.ownBlock.toList wr w') : Out v0.ownBlock.toList W w' := by
  refine ⟨h2.os.trans h.os, h2.tape.trans h.tape, h2.output.trans h.output, Nat.le_trans h.size h2.size, fun k hk hn => ?_⟩
  rw [h2.block k (Nat.lt_of_lt_of_le hk h.size) ?_]
  · exact h.block k hk hn
  · intro hk'
    rcases hm with e | ⟨z, e, hz⟩
    · rw [e] at hk'; exact hn hk'
    · rw [e] at hk'; simp at hk'; omega
theorem moved_trans {W wr : World} {v0 v v' : Value} (h : Moved W v0 v) (hs : W.heap.size ≤ wr.heap.size) (h2 : Moved wr v v') : Moved W v0 v' := by
  rcases h2 with e | ⟨z, e, hz⟩
  · rcases h with e1 | ⟨z, e1, hz⟩
    · exact Or.inl (e.trans e1)
    · exact Or.inr ⟨z, e.trans e1, hz⟩
  · exact Or.inr ⟨z, e, by omega⟩
theorem out_below {B : Nat} {w w' : World} {out : List Int} {v : Value} (h : NumRow w B out v) (ho : Out v.ownBlock.toList w w') (hB : B ≤ w.heap.size) : Below B w w' :=
  ho.below (fun f hf => by
    cases e : v.ownBlock with
    | none => rw [e] at hf; cases hf
    | some b => rw [e] at hf; simp at hf; subst hf; exact (h.lt e).1) hB

end Go.Proofs.Ytcmnjpoapcogham
