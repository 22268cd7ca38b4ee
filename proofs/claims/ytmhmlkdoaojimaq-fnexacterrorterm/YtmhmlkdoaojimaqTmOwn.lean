/- Terms whose rows of kids lie each in a block of its own: the blocks, and what stays where they stay. Of no program. -/
import Derived.Test.YtmhmlkdoaojimaqTmPlain
import Derived.Laws.AppendOwn
import Derived.Maps.AppendAt
namespace Go.Proofs.Ytmhmlkdoaojimaq
open Go.RowKit

mutual
/-- the value v is the term in w, its rows in the blocks F, in the order in which they are met -/
def Own (e : TypeId) (w : World) : Tm → Value → List Nat → Prop
  | .mk k s n ks, v, F => ∃ sl, v = .agg #[.int .i64 k, .string s, .int .i64 n, sl] ∧ (-9223372036854775808 ≤ k ∧ k ≤ 9223372036854775807) ∧ (-9223372036854775808 ≤ n ∧ n ≤ 9223372036854775807) ∧ s.size ≤ maxLen ∧
    ((sl = .slice none 0 0 ∧ ks = [] ∧ F = []) ∨ ∃ g cap cs F', sl = .slice (some ⟨g, 0, none⟩) ks.length cap ∧ w.ownsRow 0 e 4 sl ks.length cs ∧ F = g :: F' ∧ OwnRow e w ks cs F')
/-- .. the cells of a row, four each -/
def OwnRow (e : TypeId) (w : World) : List Tm → List Value → List Nat → Prop
  | [], cs, F => cs = [] ∧ F = []
  | t :: ts, cs, F => ∃ c0 c1 c2 c3 cs' F1 F2, cs = c0 :: c1 :: c2 :: c3 :: cs' ∧ F = F1 ++ F2 ∧ Own e w t (.agg #[c0, c1, c2, c3]) F1 ∧ OwnRow e w ts cs' F2
end

/-- a slice of terms, its own row and theirs -/
def OwnS (e : TypeId) (w : World) (ks : List Tm) (sl : Value) (F : List Nat) : Prop :=
  (sl = .slice none 0 0 ∧ ks = [] ∧ F = []) ∨ ∃ g cap cs F', sl = .slice (some ⟨g, 0, none⟩) ks.length cap ∧ w.ownsRow 0 e 4 sl ks.length cs ∧ F = g :: F' ∧ OwnRow e w ks cs F'

theorem own_mk {e : TypeId} {w : World} {k n : Int} {s : ByteArray} {ks : List Tm} {sl : Value} {F : List Nat} (h : OwnS e w ks sl F) (hk : -9223372036854775808 ≤ k ∧ k ≤ 9223372036854775807) (hn : -9223372036854775808 ≤ n ∧ n ≤ 9223372036854775807) (hs : s.size ≤ maxLen) :
    Own e w (.mk k s n ks) (.agg #[.int .i64 k, .string s, .int .i64 n, sl]) F := by
  unfold Own
  exact ⟨sl, rfl, hk, hn, hs, h⟩

theorem own_open {e : TypeId} {w : World} {k n : Int} {s : ByteArray} {ks : List Tm} {v : Value} {F : List Nat} (h : Own e w (.mk k s n ks) v F) :
    ∃ sl, v = .agg #[.int .i64 k, .string s, .int .i64 n, sl] ∧ OwnS e w ks sl F := by
  unfold Own at h
  obtain ⟨sl, rfl, _, _, _, h⟩ := h
  exact ⟨sl, rfl, h⟩

theorem row_keep {w w' : World} {B e size n g cap : Nat} {xs : List Value} (h : w.ownsRow B e size (.slice (some ⟨g, 0, none⟩) n cap) n xs) (hb : w'.heap[g]? = w.heap[g]?) : w'.ownsRow B e size (.slice (some ⟨g, 0, none⟩) n cap) n xs := by
  refine ⟨h.1, ?_⟩
  rcases h.2 with ⟨h, _⟩ | ⟨g', cap', cur, h1, h2, h3, h4⟩
  · cases h
  · cases h1
    exact Or.inr ⟨g, cap, cur, rfl, h2, hb.trans h3, h4⟩

mutual
theorem Own.keep {e : TypeId} {w w' : World} : ∀ (t : Tm) (v : Value) (F : List Nat), Own e w t v F → (∀ f ∈ F, w'.heap[f]? = w.heap[f]?) → Own e w' t v F
  | .mk k s n ks, v, F, h, hF => by
    unfold Own at h ⊢
    obtain ⟨sl, rfl, h1, h2, h3, h4⟩ := h
    refine ⟨sl, rfl, h1, h2, h3, ?_⟩
    rcases h4 with h4 | ⟨g, cap, cs, F', rfl, h5, rfl, h6⟩
    · exact Or.inl h4
    · exact Or.inr ⟨g, cap, cs, F', rfl, row_keep h5 (hF g (by simp)), rfl, OwnRow.keep ks cs F' h6 (fun f hf => hF f (by simp [hf]))⟩
theorem OwnRow.keep {e : TypeId} {w w' : World} : ∀ (ks : List Tm) (cs : List Value) (F : List Nat), OwnRow e w ks cs F → (∀ f ∈ F, w'.heap[f]? = w.heap[f]?) → OwnRow e w' ks cs F
  | [], _, _, h, _ => by unfold OwnRow at h ⊢; exact h
  | t :: ts, cs, F, h, hF => by
    unfold OwnRow at h ⊢
    obtain ⟨c0, c1, c2, c3, cs', F1, F2, rfl, rfl, h1, h2⟩ := h
    exact ⟨c0, c1, c2, c3, cs', F1, F2, rfl, rfl, Own.keep t _ F1 h1 (fun f hf => hF f (by simp [hf])), OwnRow.keep ts cs' F2 h2 (fun f hf => hF f (by simp [hf]))⟩
end

mutual
theorem Own.lt {e : TypeId} {w : World} : ∀ (t : Tm) (v : Value) (F : List Nat), Own e w t v F → ∀ f ∈ F, f < w.heap.size
  | .mk k s n ks, v, F, h => by
    unfold Own at h
    obtain ⟨sl, rfl, h1, h2, h3, h4⟩ := h
    rcases h4 with ⟨_, _, rfl⟩ | ⟨g, cap, cs, F', rfl, h5, rfl, h6⟩
    · intro f hf; cases hf
    · intro f hf
      rcases List.mem_cons.1 hf with rfl | hf
      · exact (h5.lt _ rfl).2
      · exact OwnRow.lt ks cs F' h6 f hf
theorem OwnRow.lt {e : TypeId} {w : World} : ∀ (ks : List Tm) (cs : List Value) (F : List Nat), OwnRow e w ks cs F → ∀ f ∈ F, f < w.heap.size
  | [], _, _, h => by unfold OwnRow at h; obtain ⟨_, rfl⟩ := h; intro f hf; cases hf
  | t :: ts, cs, F, h => by
    unfold OwnRow at h
    obtain ⟨c0, c1, c2, c3, cs', F1, F2, rfl, rfl, h1, h2⟩ := h
    intro f hf
    rcases List.mem_append.1 hf with hf | hf
    · exact Own.lt t _ F1 h1 f hf
    · exact OwnRow.lt ts cs' F2 h2 f hf
end

mutual
theorem Own.toIn {e : TypeId} {w : World} : ∀ (t : Tm) (v : Value) (F : List Nat), Own e w t v F → TmIn w t v
  | .mk k s n ks, v, F, h => by
    unfold Own at h
    obtain ⟨sl, rfl, h1, h2, h3, h4⟩ := h
    unfold TmIn
    rcases h4 with ⟨rfl, rfl, _⟩ | ⟨g, cap, cs, F', rfl, h5, rfl, h6⟩
    · exact ⟨none, 0, rfl, h1, h2, h3, Nat.le_refl _, Nat.zero_le _, fun h => absurd rfl h⟩
    · have h5' := h5
      rcases h5.2 with ⟨h, _⟩ | ⟨g', cap', cur, hc, _, hh, hnc, hcm, hcs, htk⟩
      · cases h
      · cases hc
        refine ⟨_, cap, rfl, h1, h2, h3, hnc, hcm, fun _ => ⟨g, 0, rfl, OwnRow.toIn ks cs F' g 0 h6 fun i hi => ?_⟩⟩
        have := h5'.cellAt i (by rw [← h5'.1]; exact hi)
        rw [Nat.zero_add]
        rw [this]
theorem OwnRow.toIn {e : TypeId} {w : World} : ∀ (ks : List Tm) (cs : List Value) (F : List Nat) (g off : Nat), OwnRow e w ks cs F → (∀ i, i < cs.length → w.cell? ⟨g, off + i, none⟩ = cs[i]?) → TmsIn w ks g off
  | [], _, _, _, _, _, _ => by unfold TmsIn; trivial
  | t :: ts, cs, F, g, off, h, hc => by
    unfold OwnRow at h
    obtain ⟨c0, c1, c2, c3, cs', F1, F2, rfl, rfl, h1, h2⟩ := h
    unfold TmsIn
    refine ⟨⟨c0, c1, c2, c3, hc 0 (by simp), hc 1 (by simp), hc 2 (by simp), hc 3 (by simp), Own.toIn t _ F1 h1⟩, OwnRow.toIn ts cs' F2 g (off + 4) h2 fun i hi => ?_⟩
    have := hc (i + 4) (by simp only [List.length_cons]; omega)
    rw [show off + (i + 4) = off + 4 + i by omega] at this
    rw [this]
    simp
end

theorem OwnS.keep {e : TypeId} {w w' : World} {ks : List Tm} {sl : Value} {F : List Nat} (h : OwnS e w ks sl F) (hF : ∀ f ∈ F, w'.heap[f]? = w.heap[f]?) : OwnS e w' ks sl F := by
  rcases h with h | ⟨g, cap, cs, F', rfl, h5, rfl, h6⟩
  · exact Or.inl h
  · exact Or.inr ⟨g, cap, cs, F', rfl, row_keep h5 (hF g (by simp)), rfl, OwnRow.keep ks cs F' h6 (fun f hf => hF f (by simp [hf]))⟩

theorem OwnRow.snoc {e : TypeId} {w : World} {t : Tm} {c0 c1 c2 c3 : Value} {F2 : List Nat} (h2 : Own e w t (.agg #[c0, c1, c2, c3]) F2) : ∀ (ks : List Tm) (cs : List Value) (F : List Nat), OwnRow e w ks cs F → OwnRow e w (ks ++ [t]) (cs ++ [c0, c1, c2, c3]) (F ++ F2)
  | [], _, _, h => by
    unfold OwnRow at h
    obtain ⟨rfl, rfl⟩ := h
    unfold OwnRow
    exact ⟨c0, c1, c2, c3, [], F2, [], rfl, by simp, h2, by unfold OwnRow; exact ⟨rfl, rfl⟩⟩
  | t' :: ts, cs, F, h => by
    unfold OwnRow at h
    obtain ⟨d0, d1, d2, d3, cs', F1, F3, rfl, rfl, h1, h3⟩ := h
    show OwnRow e w (t' :: (ts ++ [t])) _ _
    unfold OwnRow
    exact ⟨d0, d1, d2, d3, cs' ++ [c0, c1, c2, c3], F1, F3 ++ F2, by simp, by simp, h1, OwnRow.snoc h2 ts cs' F3 h3⟩

theorem OwnRow.len {e : TypeId} {w : World} : ∀ (ks : List Tm) (cs : List Value) (F : List Nat), OwnRow e w ks cs F → cs.length = ks.length * 4
  | [], _, _, h => by unfold OwnRow at h; obtain ⟨rfl, _⟩ := h; rfl
  | t :: ts, cs, F, h => by
    unfold OwnRow at h
    obtain ⟨c0, c1, c2, c3, cs', F1, F2, rfl, rfl, h1, h2⟩ := h
    have := OwnRow.len ts cs' F2 h2
    simp only [List.length_cons]
    omega

theorem own_shape {e : TypeId} {w : World} {t : Tm} {v : Value} {F : List Nat} (h : Own e w t v F) : ∃ k s n ao len cap, v = .agg #[.int .i64 k, .string s, .int .i64 n, .slice ao len cap] := by
  obtain ⟨k, s, n, ks⟩ := t
  obtain ⟨sl, rfl, h1⟩ := own_open h
  rcases h1 with ⟨rfl, _⟩ | ⟨g, cap, cs, F', rfl, _⟩
  · exact ⟨_, _, _, _, _, _, rfl⟩
  · exact ⟨_, _, _, _, _, _, rfl⟩

theorem blk_cell {w : World} {g i : Nat} {cur : Array Value} {T : TypeId} {fr : Nat × Nat} (h : w.heap[g]? = some (.cells cur T fr)) (hi : i < cur.size) : w.cell? ⟨g, i, none⟩ = some cur[i] := by
  unfold World.cell?; rw [h]; simp [hi]
theorem blk_frozen {w : World} {g : Nat} {cur : Array Value} {T : TypeId} (h : w.heap[g]? = some (.cells cur T (0, 0))) (i : Nat) : w.frozen? ⟨g, i, none⟩ = false := by
  unfold World.frozen?; rw [h]; simp
theorem blk_set {w : World} {g i : Nat} {cur : Array Value} {T : TypeId} {fr : Nat × Nat} (h : w.heap[g]? = some (.cells cur T fr)) (v : Value) : (w.setCell ⟨g, i, none⟩ v).heap[g]? = some (.cells (cur.setIfInBounds i v) T fr) := by
  simp [World.setCell, Array.getElem?_modify, h]
theorem blk_other {w : World} {g i f : Nat} (v : Value) (hf : f ≠ g) : (w.setCell ⟨g, i, none⟩ v).heap[f]? = w.heap[f]? := by
  simp [World.setCell, Array.getElem?_modify, Ne.symm hf]
theorem set4_take {cur : Array Value} {j : Nat} {d0 d1 d2 d3 : Value} (h : j * 4 + 3 < cur.size) :
    ((((cur.setIfInBounds (j * 4) d0).setIfInBounds (j * 4 + 1) d1).setIfInBounds (j * 4 + 2) d2).setIfInBounds (j * 4 + 3) d3).toList.take ((j + 1) * 4) = cur.toList.take (j * 4) ++ [d0, d1, d2, d3] := by
  apply List.ext_getElem?
  intro i
  have hl : cur.toList.length = cur.size := by simp
  simp only [Array.toList_setIfInBounds, List.getElem?_take, List.getElem?_set, List.length_set, List.getElem?_append, List.length_take, hl]
  have e1 : min (j * 4) cur.size = j * 4 := by omega
  rw [e1]
  by_cases h1 : i < j * 4
  · have a1 : i < (j + 1) * 4 := by omega
    have a2 : ¬ j * 4 = i := by omega
    have a3 : ¬ j * 4 + 1 = i := by omega
    have a4 : ¬ j * 4 + 2 = i := by omega
    have a5 : ¬ j * 4 + 3 = i := by omega
    simp [h1, a1, a2, a3, a4, a5]
  · by_cases h2 : i < (j + 1) * 4
    · have : i = j * 4 ∨ i = j * 4 + 1 ∨ i = j * 4 + 2 ∨ i = j * 4 + 3 := by omega
      rcases this with rfl | rfl | rfl | rfl
      · have b1 : j * 4 < cur.size := by omega
        simp [h2, b1]
      · have b1 : j * 4 + 1 < cur.size := by omega
        simp [h2, b1]
        omega
      · have b1 : j * 4 + 2 < cur.size := by omega
        simp [h2, b1]
        omega
      · simp [h2, h]
        omega
    · have : ¬ i - j * 4 < 4 := by omega
      have a6 : [d0, d1, d2, d3][i - j * 4]? = none := by
        rw [List.getElem?_eq_none]; simp; omega
      simp [h1, h2, a6]
end Go.Proofs.Ytmhmlkdoaojimaq
