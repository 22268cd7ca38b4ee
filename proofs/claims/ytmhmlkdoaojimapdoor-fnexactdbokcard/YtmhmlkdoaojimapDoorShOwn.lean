/- One list of the shelves as a row of its own. -/
import Derived.Test.YtmhmlkdoaojimapDoorShlI
namespace Go.Proofs.YtmhmlkdoaojimapDoor
open Go.RowKit

/-- one list of the shelves as a row of its own -/
theorem sh_own {w0 w : World} {B : Nat} {q : ByteArray} {ks : List Cla} {D : Nat → Prop} {v : Value} (h : ShRow 57 46 w0 w B q ks D v) (hD : ∀ f, D f → w.heap[f]? = w0.heap[f]?) (hlt : ∀ f, D f → f < B) :
    ∃ F, OwnClS 57 46 w (ofPred q ks) v F ∧ F.Nodup ∧ (∀ f ∈ F, D f ∨ (∃ cur, w.heap[f]? = some (.cells cur 57 (0, 0)))) := by
  obtain ⟨news, F, h1, h2, h3, h4⟩ := h
  rcases h1.2 with ⟨rfl, hl⟩ | ⟨g, cap, cur, rfl, hb, hh, hr⟩
  · have h0 := List.eq_nil_of_length_eq_zero hl
    exact ⟨[], Or.inl ⟨rfl, h0, rfl⟩, by simp, by simp⟩
  · refine ⟨g :: F, Or.inr ⟨g, cap, news, F, rfl, ⟨h1.1, Or.inr ⟨g, cap, cur, rfl, Nat.zero_le _, hh, hr⟩⟩, rfl, OwnCs.keep _ _ _ h2 fun f hf => hD f (h4 f hf)⟩, List.nodup_cons.2 ⟨fun hg => ?_, h3⟩, fun f hf => ?_⟩
    · have := hlt g (h4 g hg)
      omega
    · rcases List.mem_cons.1 hf with rfl | hf
      · exact Or.inr ⟨cur, hh⟩
      · exact Or.inl (h4 f hf)

end Go.Proofs.YtmhmlkdoaojimapDoor
