/- A row of terms that grows by appends. Of no program. -/
import Derived.Test.YtdcphfcenaafbamTmOwn
namespace Go.Proofs.Ytdcphfcenaafbam
open Go.RowKit

/-- what was put together so far: a row of its own, and the terms in it in blocks of their own -/
def OutS (e : TypeId) (w : World) (B : Nat) (ks : List Tm) (v : Value) (F : List Nat) : Prop :=
  ∃ cs g, w.ownsRow B e 4 v ks.length cs ∧ v.ownBlock = some g ∧ OwnRow e w ks cs F ∧ (∀ f ∈ F, B ≤ f) ∧ B ≤ g ∧ (g :: F).Nodup

theorem OutS.own {e : TypeId} {w : World} {B : Nat} {ks : List Tm} {v : Value} {F : List Nat} (h : OutS e w B ks v F) : ∃ F', OwnS e w ks v F' ∧ (∀ f ∈ F', B ≤ f) ∧ F'.Nodup := by
  obtain ⟨cs, g, h1, h2, h3, h4, h5, h6⟩ := h
  refine ⟨g :: F, ?_, ?_, h6⟩
  · rcases h1.2 with ⟨rfl, _⟩ | ⟨g', cap, cur, rfl, hb, hh, hr⟩
    · cases h2
    · obtain rfl : g' = g := by simpa [Value.ownBlock] using h2
      exact Or.inr ⟨g', cap, cs, F, rfl, ⟨h1.1, Or.inr ⟨g', cap, cur, rfl, Nat.zero_le _, hh, hr⟩⟩, rfl, h3⟩
  · intro f hf
    rcases List.mem_cons.1 hf with rfl | hf
    · exact h5
    · exact h4 f hf

theorem OutS.lt {e : TypeId} {w : World} {B : Nat} {ks : List Tm} {v : Value} {F : List Nat} (h : OutS e w B ks v F) : (∀ f ∈ F, f < w.heap.size) ∧ ∀ g, v.ownBlock = some g → g < w.heap.size := by
  obtain ⟨cs, g, h1, h2, h3, h4, h5, h6⟩ := h
  exact ⟨OwnRow.lt _ _ _ h3, fun g hg => (h1.lt g hg).2⟩

theorem OutS.shape {e : TypeId} {w : World} {B : Nat} {ks : List Tm} {v : Value} {F : List Nat} (h : OutS e w B ks v F) : ∃ g cap, v = .slice (some ⟨g, 0, none⟩) ks.length cap ∧ B ≤ g ∧ g < w.heap.size ∧ ks.length ≤ cap ∧ cap ≤ maxLen := by
  obtain ⟨cs, g, h1, h2, h3, h4, h5, h6⟩ := h
  rcases h1.2 with ⟨rfl, _⟩ | ⟨g', cap, cur, rfl, hb, hh, hr, hm, _⟩
  · cases h2
  · exact ⟨g', cap, rfl, hb, (Array.getElem?_eq_some_iff.1 hh).1, hr, hm⟩

theorem OutS.keep {e : TypeId} {w w' : World} {B : Nat} {ks : List Tm} {v : Value} {F : List Nat} (h : OutS e w B ks v F) (hb : ∀ k, B ≤ k → k < w.heap.size → w'.heap[k]? = w.heap[k]?) : OutS e w' B ks v F := by
  have hlt := h.lt
  obtain ⟨cs, g, h1, h2, h3, h4, h5, h6⟩ := h
  refine ⟨cs, g, ?_, h2, OwnRow.keep _ _ _ h3 fun f hf => hb f (h4 f hf) (hlt.1 f hf), h4, h5, h6⟩
  rcases h1.2 with ⟨rfl, _⟩ | ⟨g', cap, cur, rfl, hb', hh, hr⟩
  · cases h2
  · exact ⟨h1.1, Or.inr ⟨g', cap, cur, rfl, hb', (hb g' hb' (Array.getElem?_eq_some_iff.1 hh).1).trans hh, hr⟩⟩

theorem outS_new {e : TypeId} {w : World} {B : Nat} (hB : B ≤ w.heap.size) (cap : Nat) (hc : cap ≤ maxLen) (M : Array Value) (hM : M.size = cap * 4) : OutS e (w.alloc (.cells M e)) B [] (.slice (some ⟨w.heap.size, 0, none⟩) 0 cap) [] := by
  refine ⟨[], w.heap.size, ⟨by simp, Or.inr ⟨w.heap.size, cap, M, rfl, hB, heap_alloc_new w _, Nat.zero_le _, hc, hM, by simp⟩⟩, rfl, by simp [OwnRow], by simp, hB, by simp⟩

/-- one more term behind it -/
theorem OutS.push {e : TypeId} {w1 w2 : World} {B : Nat} {ks : List Tm} {v v' : Value} {F F2 : List Nat} {t : Tm} {c0 c1 c2 c3 : Value} {cs : List Value} {g : Nat}
    (h1 : w1.ownsRow B e 4 v ks.length cs) (hg : v.ownBlock = some g) (hr : OwnRow e w1 ks cs F) (hF : ∀ f ∈ F, B ≤ f) (hBg : B ≤ g) (hnd : (g :: F).Nodup)
    (ht : Own e w1 t (.agg #[c0, c1, c2, c3]) F2) (hF2 : ∀ f ∈ F2, B ≤ f) (hnd2 : F2.Nodup) (hdis : ∀ f ∈ F2, f ∉ g :: F)
    (hown : w2.ownsRow B e 4 v' (ks.length + 1) (cs ++ [c0, c1, c2, c3])) (hgrow : w1.grownBy w2 v.ownBlock) (hat : v'.ownBlock = v.ownBlock ∨ v'.ownBlock = some w1.heap.size) :
    OutS e w2 B (ks ++ [t]) v' (F ++ F2) := by
  have hlt := OwnRow.lt _ _ _ hr
  have hlt2 := Own.lt _ _ _ ht
  have hglt := (h1.lt g hg).2
  rw [List.nodup_cons] at hnd
  have hk : ∀ f, f < w1.heap.size → f ≠ g → w2.heap[f]? = w1.heap[f]? := fun f hf hne => hgrow.block f hf (by rw [hg]; intro e; exact hne (by simpa using e))
  obtain ⟨g', hg', hgg⟩ : ∃ g', v'.ownBlock = some g' ∧ (g' = g ∨ g' = w1.heap.size) := by
    rcases hat with hat | hat
    · exact ⟨g, hat.trans hg, Or.inl rfl⟩
    · exact ⟨_, hat, Or.inr rfl⟩
  have hne : ∀ f ∈ F, f ≠ g := fun f hf e => hnd.1 (e ▸ hf)
  have hne2 : ∀ f ∈ F2, f ≠ g := fun f hf e => hdis f hf (by simp [e])
  refine ⟨cs ++ [c0, c1, c2, c3], g', by simpa using hown, hg', ?_, ?_, ?_, ?_⟩
  · exact OwnRow.snoc (Own.keep _ _ _ ht fun f hf => hk f (hlt2 f hf) (hne2 f hf)) _ _ _ (OwnRow.keep _ _ _ hr fun f hf => hk f (hlt f hf) (hne f hf))
  · intro f hf
    rcases List.mem_append.1 hf with hf | hf
    · exact hF f hf
    · exact hF2 f hf
  · rcases hgg with rfl | rfl
    · exact hBg
    · omega
  · refine List.nodup_cons.2 ⟨fun hf => ?_, List.nodup_append.2 ⟨hnd.2, hnd2, fun a ha b hb e => hdis b hb (by rw [← e]; simp [ha])⟩⟩
    rcases List.mem_append.1 hf with hf | hf
    · rcases hgg with rfl | rfl
      · exact hnd.1 hf
      · have := hlt _ hf; omega
    · rcases hgg with rfl | rfl
      · exact hne2 _ hf rfl
      · have := hlt2 _ hf; omega
end Go.Proofs.Ytdcphfcenaafbam
