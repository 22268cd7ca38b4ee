import Derived.Test.YtbkjcccbjnehbanGreatDoorMh1
import Derived.Laws.AppendOwn
import Derived.Maps.AppendAt
import Derived.Laws.NewBlocks
import Derived.Test.YtbkjcccbjnehbanGreatDoorRows
import Derived.ProofKit
import Derived.Deep.DeepCutAuto
import Derived.Deep.QuietTactic
import Derived.BigQuiet
namespace Go.Proofs.YtbkjcccbjnehbanGreatDoor
open Go.RowKit
mutual
def Own (e : TypeId) (w : World) : Tm → Value → List Nat → Prop
 | .mk k s n ks, v, F => ∃ sl, v = .agg #[.int .i64 k, .string s, .int .i64 n, sl] ∧ (-9223372036854775808 ≤ k ∧ k ≤ 9223372036854775807) ∧ (-9223372036854775808 ≤ n ∧ n ≤ 9223372036854775807) ∧ s.size ≤ maxLen ∧
   ((sl = .slice none 0 0 ∧ ks = [] ∧ F = []) ∨ ∃ g cap cs F', sl = .slice (some ⟨g, 0, none⟩) ks.length cap ∧ w.ownsRow 0 e 4 sl ks.length cs ∧ F = g :: F' ∧ OwnRow e w ks cs F')
def OwnRow (e : TypeId) (w : World) : List Tm → List Value → List Nat → Prop
 | [], cs, F => cs = [] ∧ F = []
 | t :: ts, cs, F => ∃ c0 c1 c2 c3 cs' F1 F2, cs = c0 :: c1 :: c2 :: c3 :: cs' ∧ F = F1 ++ F2 ∧ Own e w t (.agg #[c0, c1, c2, c3]) F1 ∧ OwnRow e w ts cs' F2
end
def OwnS (e : TypeId) (w : World) (ks : List Tm) (sl : Value) (F : List Nat) : Prop :=
 (sl = .slice none 0 0 ∧ ks = [] ∧ F = []) ∨ ∃ g cap cs F', sl = .slice (some ⟨g, 0, none⟩) ks.length cap ∧ w.ownsRow 0 e 4 sl ks.length cs ∧ F = g :: F' ∧ OwnRow e w ks cs F'
theorem own_mk {e : TypeId} {w : World} {k n : Int} {s : ByteArray} {ks : List Tm} {sl : Value} {F : List Nat} (h : OwnS e w ks sl F) (hk : -9223372036854775808 ≤ k ∧ k ≤ 9223372036854775807) (hn : -9223372036854775808 ≤ n ∧ n ≤ 9223372036854775807) (hs : s.size ≤ maxLen) :
   Own e w (.mk k s n ks) (.agg #[.int .i64 k, .string s, .int .i64 n, sl]) F := by
 unfold Own
 exact ⟨sl, rfl, hk, hn, hs, h⟩
theorem own_open {e : TypeId} {w : World} {k n : Int} {s : ByteArray} {ks : List Tm} {v : Value} {F : List Nat} (h : Own e w (.mk k s n ks) v F) :
   ∃ sl, v = .agg #[.int .i64 k, .string s, .int .i64 n, sl] ∧ OwnS e w ks sl F := by
 unfold Own at h
 obtain ⟨sl, rfl, _, _, _, h⟩ := h
 exact ⟨sl, rfl, h⟩
theorem row_keep {w w' : World} {B e size n g cap : Nat} {xs : List Value} (h : w.ownsRow B e size (.slice (some ⟨g, 0, none⟩) n cap) n xs) (hb : w'.heap[g]? = w.heap[g]?) : w'.ownsRow B e size (.slice (some ⟨g, 0, none⟩) n cap) n xs := by
 refine ⟨h.1, ?_⟩
 rcases h.2 with ⟨h, _⟩ | ⟨g', cap', cur, h1, h2, h3, h4⟩
 · cases h
 · cases h1
   exact Or.inr ⟨g, cap, cur, rfl, h2, hb.trans h3, h4⟩
mutual
theorem Own.keep {e : TypeId} {w w' : World} : ∀ (t : Tm) (v : Value) (F : List Nat), Own e w t v F → (∀ f ∈ F, w'.heap[f]? = w.heap[f]?) → Own e w' t v F
 | .mk k s n ks, v, F, h, hF => by
   unfold Own at h ⊢
   obtain ⟨sl, rfl, h1, h2, h3, h4⟩ := h
   refine ⟨sl, rfl, h1, h2, h3, ?_⟩
   rcases h4 with h4 | ⟨g, cap, cs, F', rfl, h5, rfl, h6⟩
   · exact Or.inl h4
   · exact Or.inr ⟨g, cap, cs, F', rfl, row_keep h5 (hF g (by simp)), rfl, OwnRow.keep ks cs F' h6 (fun f hf => hF f (by simp [hf]))⟩
theorem OwnRow.keep {e : TypeId} {w w' : World} : ∀ (ks : List Tm) (cs : List Value) (F : List Nat), OwnRow e w ks cs F → (∀ f ∈ F, w'.heap[f]? = w.heap[f]?) → OwnRow e w' ks cs F
 | [], _, _, h, _ => by unfold OwnRow at h ⊢; exact h
 | t :: ts, cs, F, h, hF => by
   unfold OwnRow at h ⊢
   obtain ⟨c0, c1, c2, c3, cs', F1, F2, rfl, rfl, h1, h2⟩ := h
   exact ⟨c0, c1, c2, c3, cs', F1, F2, rfl, rfl, Own.keep t _ F1 h1 (fun f hf => hF f (by simp [hf])), OwnRow.keep ts cs' F2 h2 (fun f hf => hF f (by simp [hf]))⟩
end
mutual
theorem Own.lt {e : TypeId} {w : World} : ∀ (t : Tm) (v : Value) (F : List Nat), Own e w t v F → ∀ f ∈ F, f < w.heap.size
 | .mk k s n ks, v, F, h => by
   unfold Own at h
   obtain ⟨sl, rfl, h1, h2, h3, h4⟩ := h
   rcases h4 with ⟨_, _, rfl⟩ | ⟨g, cap, cs, F', rfl, h5, rfl, h6⟩
   · intro f hf; cases hf
   · intro f hf
     rcases List.mem_cons.1 hf with rfl | hf
     · exact (h5.lt _ rfl).2
     · exact OwnRow.lt ks cs F' h6 f hf
theorem OwnRow.lt {e : TypeId} {w : World} : ∀ (ks : List Tm) (cs : List Value) (F : List Nat), OwnRow e w ks cs F → ∀ f ∈ F, f < w.heap.size
 | [], _, _, h => by unfold OwnRow at h; obtain ⟨_, rfl⟩ := h; intro f hf; cases hf
 | t :: ts, cs, F, h => by
   unfold OwnRow at h
   obtain ⟨c0, c1, c2, c3, cs', F1, F2, rfl, rfl, h1, h2⟩ := h
   intro f hf
   rcases List.mem_append.1 hf with hf | hf
   · exact Own.lt t _ F1 h1 f hf
   · exact OwnRow.lt ts cs' F2 h2 f hf
end
mutual
theorem Own.toIn {e : TypeId} {w : World} : ∀ (t : Tm) (v : Value) (F : List Nat), Own e w t v F → TmIn w t v
 | .mk k s n ks, v, F, h => by
   unfold Own at h
   obtain ⟨sl, rfl, h1, h2, h3, h4⟩ := h
   unfold TmIn
   rcases h4 with ⟨rfl, rfl, _⟩ | ⟨g, cap, cs, F', rfl, h5, rfl, h6⟩
   · exact ⟨none, 0, rfl, h1, h2, h3, Nat.le_refl _, Nat.zero_le _, fun h => absurd rfl h⟩
   · have h5' := h5
     rcases h5.2 with ⟨h, _⟩ | ⟨g', cap', cur, hc, _, hh, hnc, hcm, hcs, htk⟩
     · cases h
     · cases hc
       refine ⟨_, cap, rfl, h1, h2, h3, hnc, hcm, fun _ => ⟨g, 0, rfl, OwnRow.toIn ks cs F' g 0 h6 fun i hi => ?_⟩⟩
       have := h5'.cellAt i (by rw [← h5'.1]; exact hi)
       rw [Nat.zero_add]
       rw [this]
theorem OwnRow.toIn {e : TypeId} {w : World} : ∀ (ks : List Tm) (cs : List Value) (F : List Nat) (g off : Nat), OwnRow e w ks cs F → (∀ i, i < cs.length → w.cell? ⟨g, off + i, none⟩ = cs[i]?) → TmsIn w ks g off
 | [], _, _, _, _, _, _ => by unfold TmsIn; trivial
 | t :: ts, cs, F, g, off, h, hc => by
   unfold OwnRow at h
   obtain ⟨c0, c1, c2, c3, cs', F1, F2, rfl, rfl, h1, h2⟩ := h
   unfold TmsIn
   refine ⟨⟨c0, c1, c2, c3, hc 0 (by simp), hc 1 (by simp), hc 2 (by simp), hc 3 (by simp), Own.toIn t _ F1 h1⟩, OwnRow.toIn ts cs' F2 g (off + 4) h2 fun i hi => ?_⟩
   have := hc (i + 4) (by simp only [List.length_cons]; omega)
   rw [show off + (i + 4) = off + 4 + i by omega] at this
   rw [this]
   simp
end
theorem OwnS.keep {e : TypeId} {w w' : World} {ks : List Tm} {sl : Value} {F : List Nat} (h : OwnS e w ks sl F) (hF : ∀ f ∈ F, w'.heap[f]? = w.heap[f]?) : OwnS e w' ks sl F := by
 rcases h with h | ⟨g, cap, cs, F', rfl, h5, rfl, h6⟩
 · exact Or.inl h
 · exact Or.inr ⟨g, cap, cs, F', rfl, row_keep h5 (hF g (by simp)), rfl, OwnRow.keep ks cs F' h6 (fun f hf => hF f (by simp [hf]))⟩
theorem OwnRow.snoc {e : TypeId} {w : World} {t : Tm} {c0 c1 c2 c3 : Value} {F2 : List Nat} (h2 : Own e w t (.agg #[c0, c1, c2, c3]) F2) : ∀ (ks : List Tm) (cs : List Value) (F : List Nat), OwnRow e w ks cs F → OwnRow e w (ks ++ [t]) (cs ++ [c0, c1, c2, c3]) (F ++ F2)
 | [], _, _, h => by
   unfold OwnRow at h
   obtain ⟨rfl, rfl⟩ := h
   unfold OwnRow
   exact ⟨c0, c1, c2, c3, [], F2, [], rfl, by simp, h2, by unfold OwnRow; exact ⟨rfl, rfl⟩⟩
 | t' :: ts, cs, F, h => by
   unfold OwnRow at h
   obtain ⟨d0, d1, d2, d3, cs', F1, F3, rfl, rfl, h1, h3⟩ := h
   show OwnRow e w (t' :: (ts ++ [t])) _ _
   unfold OwnRow
   exact ⟨d0, d1, d2, d3, cs' ++ [c0, c1, c2, c3], F1, F3 ++ F2, by simp, by simp, h1, OwnRow.snoc h2 ts cs' F3 h3⟩
theorem OwnRow.len {e : TypeId} {w : World} : ∀ (ks : List Tm) (cs : List Value) (F : List Nat), OwnRow e w ks cs F → cs.length = ks.length * 4
 | [], _, _, h => by unfold OwnRow at h; obtain ⟨rfl, _⟩ := h; rfl
 | t :: ts, cs, F, h => by
   unfold OwnRow at h
   obtain ⟨c0, c1, c2, c3, cs', F1, F2, rfl, rfl, h1, h2⟩ := h
   have := OwnRow.len ts cs' F2 h2
   simp only [List.length_cons]
   omega
theorem own_shape {e : TypeId} {w : World} {t : Tm} {v : Value} {F : List Nat} (h : Own e w t v F) : ∃ k s n ao len cap, v = .agg #[.int .i64 k, .string s, .int .i64 n, .slice ao len cap] := by
 obtain ⟨k, s, n, ks⟩ := t
 obtain ⟨sl, rfl, h1⟩ := own_open h
 rcases h1 with ⟨rfl, _⟩ | ⟨g, cap, cs, F', rfl, _⟩
 · exact ⟨_, _, _, _, _, _, rfl⟩
 · exact ⟨_, _, _, _, _, _, rfl⟩
theorem blk_cell {w : World} {g i : Nat} {cur : Array Value} {T : TypeId} {fr : Nat × Nat} (h : w.heap[g]? = some (.cells cur T fr)) (hi : i < cur.size) : w.cell? ⟨g, i, none⟩ = some cur[i] := by
 unfold World.cell?; rw [h]; simp [hi]
theorem blk_frozen {w : World} {g : Nat} {cur : Array Value} {T : TypeId} (h : w.heap[g]? = some (.cells cur T (0, 0))) (i : Nat) : w.frozen? ⟨g, i, none⟩ = false := by
 unfold World.frozen?; rw [h]; simp
theorem blk_set {w : World} {g i : Nat} {cur : Array Value} {T : TypeId} {fr : Nat × Nat} (h : w.heap[g]? = some (.cells cur T fr)) (v : Value) : (w.setCell ⟨g, i, none⟩ v).heap[g]? = some (.cells (cur.setIfInBounds i v) T fr) := by
 simp [World.setCell, Array.getElem?_modify, h]
theorem blk_other {w : World} {g i f : Nat} (v : Value) (hf : f ≠ g) : (w.setCell ⟨g, i, none⟩ v).heap[f]? = w.heap[f]? := by
 simp [World.setCell, Array.getElem?_modify, Ne.symm hf]
theorem set4_take {cur : Array Value} {j : Nat} {d0 d1 d2 d3 : Value} (h : j * 4 + 3 < cur.size) :
   ((((cur.setIfInBounds (j * 4) d0).setIfInBounds (j * 4 + 1) d1).setIfInBounds (j * 4 + 2) d2).setIfInBounds (j * 4 + 3) d3).toList.take ((j + 1) * 4) = cur.toList.take (j * 4) ++ [d0, d1, d2, d3] := by
 apply List.ext_getElem?
 intro i
 have hl : cur.toList.length = cur.size := by simp
 simp only [Array.toList_setIfInBounds, List.getElem?_take, List.getElem?_set, List.length_set, List.getElem?_append, List.length_take, hl]
 have e1 : min (j * 4) cur.size = j * 4 := by omega
 rw [e1]
 by_cases h1 : i < j * 4
 · have a1 : i < (j + 1) * 4 := by omega
   have a2 : ¬ j * 4 = i := by omega
   have a3 : ¬ j * 4 + 1 = i := by omega
   have a4 : ¬ j * 4 + 2 = i := by omega
   have a5 : ¬ j * 4 + 3 = i := by omega
   simp [h1, a1, a2, a3, a4, a5]
 · by_cases h2 : i < (j + 1) * 4
   · have : i = j * 4 ∨ i = j * 4 + 1 ∨ i = j * 4 + 2 ∨ i = j * 4 + 3 := by omega
     rcases this with rfl | rfl | rfl | rfl
     · have b1 : j * 4 < cur.size := by omega
       simp [h2, b1]
     · have b1 : j * 4 + 1 < cur.size := by omega
       simp [h2, b1]
       omega
     · have b1 : j * 4 + 2 < cur.size := by omega
       simp [h2, b1]
       omega
     · simp [h2, h]
       omega
   · have : ¬ i - j * 4 < 4 := by omega
     have a6 : [d0, d1, d2, d3][i - j * 4]? = none := by
       rw [List.getElem?_eq_none]; simp; omega
     simp [h1, h2, a6]
end Go.Proofs.YtbkjcccbjnehbanGreatDoor

namespace Go.Proofs.YtbkjcccbjnehbanGreatDoor
open Go.RowKit
structure FX (X X' : Nat → Prop) (w w' : World) : Prop where
 os : w'.os = w.os
 tape : w'.tape = w.tape
 output : w'.output = w.output
 size : w.heap.size ≤ w'.heap.size
 block : ∀ k, k < w.heap.size → ¬ X k → w'.heap[k]? = w.heap[k]?
 new : ∀ k, X' k → X k ∨ w.heap.size ≤ k
theorem FX.refl (X : Nat → Prop) (w : World) : FX X X w w := ⟨rfl, rfl, rfl, Nat.le_refl _, fun _ _ _ => rfl, fun _ h => Or.inl h⟩
theorem FX.trans {X Y Z : Nat → Prop} {a b c : World} (h : FX X Y a b) (k : FX Y Z b c) : FX X Z a c :=
 ⟨k.os.trans h.os, k.tape.trans h.tape, k.output.trans h.output, Nat.le_trans h.size k.size, fun i hi hx => (k.block i (Nat.lt_of_lt_of_le hi h.size) (fun hy => (h.new i hy).elim hx (fun h => by omega))).trans (h.block i hi hx),
  fun i hz => (k.new i hz).elim (h.new i) (fun hl => Or.inr (Nat.le_trans h.size hl))⟩
theorem FX.of_below {X : Nat → Prop} {w w' : World} (h : Below w.heap.size w w') : FX X X w w' := ⟨h.os, h.tape, h.output, h.size, fun k hk _ => h.block k hk, fun _ h => Or.inl h⟩
theorem FX.to {X X' Y : Nat → Prop} {w w' : World} (h : FX X X' w w') (hy : ∀ k, Y k → X' k) : FX X Y w w' := ⟨h.os, h.tape, h.output, h.size, h.block, fun k hk => h.new k (hy k hk)⟩
theorem FX.alloc {X X' : Nat → Prop} {w w' : World} (h : FX X X' w w') (o : Obj) : FX X X' w (w'.alloc o) := h.trans (FX.of_below ((Below.refl _ _).alloc (Nat.le_refl _) _))
theorem FX.set {X X' : Nat → Prop} {w w' : World} (h : FX X X' w w') {g i : Nat} (hg : X g ∨ w.heap.size ≤ g) (v : Value) : FX X X' w (w'.setCell ⟨g, i, none⟩ v) :=
 ⟨h.os, h.tape, h.output, by simpa [World.setCell] using h.size, fun k hk hx => by
   have : g ≠ k := by rintro rfl; exact hg.elim hx (fun hl => by omega)
   rw [← h.block k hk hx]
   simp [World.setCell, Array.getElem?_modify, this], h.new⟩
theorem FX.below {X X' : Nat → Prop} {w w' : World} (h : FX X X' w w') {B : Nat} (hB : B ≤ w.heap.size) (hx : ∀ k, X k → B ≤ k) : Below B w w' :=
 ⟨h.os, h.tape, h.output, h.size, fun k hk => h.block k (by omega) (fun hh => by have := hx k hh; omega)⟩
structure TOk (e : TypeId) (X : Nat → Prop) (lo : Nat) (w : World) (t : Tm) (v : Value) (F : List Nat) : Prop where
 own : Own e w t v F
 nd : F.Nodup
 out : ∀ f ∈ F, lo ≤ f ∧ ¬ X f
theorem TOk.lt {e : TypeId} {X : Nat → Prop} {lo : Nat} {w : World} {t : Tm} {v : Value} {F : List Nat} (h : TOk e X lo w t v F) : ∀ f ∈ F, f < w.heap.size := Own.lt t v F h.own
theorem TOk.step {e : TypeId} {X X' : Nat → Prop} {lo : Nat} {w w' : World} {t : Tm} {v : Value} {F : List Nat} (h : TOk e X lo w t v F) (hf : FX X X' w w') : TOk e X' lo w' t v F :=
 ⟨Own.keep t v F h.own fun f hm => hf.block f (h.lt f hm) (h.out f hm).2, h.nd, fun f hm => ⟨(h.out f hm).1, fun hx => (hf.new f hx).elim (h.out f hm).2 (fun hl => by have := h.lt f hm; omega)⟩⟩
theorem TOk.lo_le {e : TypeId} {X : Nat → Prop} {lo lo' : Nat} {w : World} {t : Tm} {v : Value} {F : List Nat} (h : TOk e X lo w t v F) (hl : lo' ≤ lo) : TOk e X lo' w t v F :=
 ⟨h.own, h.nd, fun f hm => ⟨Nat.le_trans hl (h.out f hm).1, (h.out f hm).2⟩⟩
theorem TOk.leaf {e : TypeId} {X : Nat → Prop} {lo : Nat} {w : World} {k n : Int} {s : ByteArray} (hk : -9223372036854775808 ≤ k ∧ k ≤ 9223372036854775807) (hn : -9223372036854775808 ≤ n ∧ n ≤ 9223372036854775807) (hs : s.size ≤ maxLen) :
   TOk e X lo w (.mk k s n []) (.agg #[.int .i64 k, .string s, .int .i64 n, .slice none 0 0]) [] :=
 ⟨own_mk (Or.inl ⟨rfl, rfl, rfl⟩) hk hn hs, List.nodup_nil, fun f h => by cases h⟩
structure ROk (e : TypeId) (X : Nat → Prop) (lo : Nat) (w : World) (ks : List Tm) (sl : Value) (F : List Nat) : Prop where
 own : OwnS e w ks sl F
 nd : F.Nodup
 out : ∀ f ∈ F, lo ≤ f ∧ ¬ X f
theorem OwnS.lt {e : TypeId} {w : World} {ks : List Tm} {sl : Value} {F : List Nat} (h : OwnS e w ks sl F) : ∀ f ∈ F, f < w.heap.size := by
 rcases h with ⟨_, _, rfl⟩ | ⟨g, cap, cs, F', rfl, h5, rfl, h6⟩
 · intro f hf; cases hf
 · intro f hf
   rcases List.mem_cons.1 hf with rfl | hf
   · exact (h5.lt _ rfl).2
   · exact OwnRow.lt ks cs F' h6 f hf
theorem ROk.lt {e : TypeId} {X : Nat → Prop} {lo : Nat} {w : World} {ks : List Tm} {sl : Value} {F : List Nat} (h : ROk e X lo w ks sl F) : ∀ f ∈ F, f < w.heap.size := OwnS.lt h.own
theorem ROk.step {e : TypeId} {X X' : Nat → Prop} {lo : Nat} {w w' : World} {ks : List Tm} {sl : Value} {F : List Nat} (h : ROk e X lo w ks sl F) (hf : FX X X' w w') : ROk e X' lo w' ks sl F :=
 ⟨h.own.keep fun f hm => hf.block f (h.lt f hm) (h.out f hm).2, h.nd, fun f hm => ⟨(h.out f hm).1, fun hx => (hf.new f hx).elim (h.out f hm).2 (fun hl => by have := h.lt f hm; omega)⟩⟩
theorem ROk.nil {e : TypeId} {X : Nat → Prop} {lo : Nat} {w : World} : ROk e X lo w [] (.slice none 0 0) [] := ⟨Or.inl ⟨rfl, rfl, rfl⟩, List.nodup_nil, fun f h => by cases h⟩
theorem ROk.tm {e : TypeId} {X : Nat → Prop} {lo : Nat} {w : World} {ks : List Tm} {sl : Value} {F : List Nat} {s : ByteArray} (h : ROk e X lo w ks sl F) (hs : s.size ≤ maxLen) :
   TOk e X lo w (structTm s ks) (.agg #[.int .i64 4, .string s, .int .i64 0, sl]) F :=
 ⟨own_mk h.own (by omega) (by omega) hs, h.nd, h.out⟩
theorem ROk.one {e : TypeId} {X : Nat → Prop} {lo : Nat} {w : World} {t : Tm} {c0 c1 c2 c3 : Value} {F : List Nat} (h : TOk e X lo w t (.agg #[c0, c1, c2, c3]) F) (hl : lo ≤ w.heap.size) (hx : ¬ X w.heap.size) :
   ROk e X lo (w.alloc (.cells #[c0, c1, c2, c3] e)) [t] (.slice (some ⟨w.heap.size, 0, none⟩) 1 1) (w.heap.size :: F) := by
 have hb : Below w.heap.size w (w.alloc (.cells #[c0, c1, c2, c3] e)) := (Below.refl _ _).alloc (Nat.le_refl _) _
 have h' : Own e (w.alloc (.cells #[c0, c1, c2, c3] e)) t (.agg #[c0, c1, c2, c3]) F := Own.keep t _ F h.own fun f hm => hb.block f (h.lt f hm)
 refine ⟨Or.inr ⟨w.heap.size, 1, [c0, c1, c2, c3], F, rfl, ⟨rfl, Or.inr ⟨w.heap.size, 1, #[c0, c1, c2, c3], rfl, Nat.zero_le _, heap_alloc_new w _, Nat.le_refl _, by decide, rfl, rfl⟩⟩, rfl, ?_⟩, ?_, ?_⟩
 · unfold OwnRow
   exact ⟨c0, c1, c2, c3, [], F, [], rfl, by simp, h', by unfold OwnRow; exact ⟨rfl, rfl⟩⟩
 · exact List.nodup_cons.2 ⟨fun hm => by have := h.lt _ hm; omega, h.nd⟩
 · intro f hm
   rcases List.mem_cons.1 hm with rfl | hm
   · exact ⟨hl, hx⟩
   · exact h.out f hm
theorem ROk.two {e : TypeId} {X : Nat → Prop} {lo : Nat} {w : World} {t u : Tm} {c0 c1 c2 c3 d0 d1 d2 d3 : Value} {F G : List Nat} (h : TOk e X lo w t (.agg #[c0, c1, c2, c3]) F) (k : TOk e X lo w u (.agg #[d0, d1, d2, d3]) G) (hd : ∀ f ∈ F, ∀ g ∈ G, f ≠ g) (hl : lo ≤ w.heap.size) (hx : ¬ X w.heap.size) :
   ROk e X lo (w.alloc (.cells #[c0, c1, c2, c3, d0, d1, d2, d3] e)) [t, u] (.slice (some ⟨w.heap.size, 0, none⟩) 2 2) (w.heap.size :: (F ++ G)) := by
 have hb : Below w.heap.size w (w.alloc (.cells #[c0, c1, c2, c3, d0, d1, d2, d3] e)) := (Below.refl _ _).alloc (Nat.le_refl _) _
 have h' := Own.keep (w' := w.alloc (.cells #[c0, c1, c2, c3, d0, d1, d2, d3] e)) t _ F h.own fun f hm => hb.block f (h.lt f hm)
 have k' := Own.keep (w' := w.alloc (.cells #[c0, c1, c2, c3, d0, d1, d2, d3] e)) u _ G k.own fun f hm => hb.block f (k.lt f hm)
 refine ⟨Or.inr ⟨w.heap.size, 2, [c0, c1, c2, c3, d0, d1, d2, d3], F ++ G, rfl, ⟨rfl, Or.inr ⟨w.heap.size, 2, #[c0, c1, c2, c3, d0, d1, d2, d3], rfl, Nat.zero_le _, heap_alloc_new w _, Nat.le_refl _, by decide, rfl, rfl⟩⟩, rfl, ?_⟩, ?_, ?_⟩
 · unfold OwnRow
   refine ⟨c0, c1, c2, c3, [d0, d1, d2, d3], F, G, rfl, rfl, h', ?_⟩
   unfold OwnRow
   exact ⟨d0, d1, d2, d3, [], G, [], rfl, by simp, k', by unfold OwnRow; exact ⟨rfl, rfl⟩⟩
 · refine List.nodup_cons.2 ⟨fun hm => ?_, List.nodup_append.2 ⟨h.nd, k.nd, hd⟩⟩
   rcases List.mem_append.1 hm with hm | hm
   · have := h.lt _ hm; omega
   · have := k.lt _ hm; omega
 · intro f hm
   rcases List.mem_cons.1 hm with rfl | hm
   · exact ⟨hl, hx⟩
   · rcases List.mem_append.1 hm with hm | hm
     · exact h.out f hm
     · exact k.out f hm
end Go.Proofs.YtbkjcccbjnehbanGreatDoor

namespace Go.Proofs.YtbkjcccbjnehbanGreatDoor
open Go.RowKit
def sgCells (s : Sg) : List Value := [.int .i64 s.kind, .string s.text, .int .i64 s.num, .int .i64 (s.at_ : Int), .bool s.near]
def sgsV (L : List Sg) : List Value := L.flatMap sgCells
theorem sgsV_push (L : List Sg) (s : Sg) : sgsV (L ++ [s]) = sgsV L ++ sgCells s := by simp [sgsV]
theorem sgsV_at (L : List Sg) (j k : Nat) (hj : j < L.length) (hk : k < 5) : (sgsV L)[j * 5 + k]? = (sgCells L[j])[k]? := by
 induction L generalizing j with
 | nil => simp at hj
 | cons s r ih =>
   have e : sgsV (s :: r) = sgCells s ++ sgsV r := by simp [sgsV]
   rw [e]
   have hl : (sgCells s).length = 5 := rfl
   cases j with
   | zero => rw [List.getElem?_append_left (by omega)]; simp
   | succ j =>
     rw [List.getElem?_append_right (by omega), hl, show (j + 1) * 5 + k - 5 = j * 5 + k by omega, ih j (by simpa using hj)]
     rfl
theorem infoS : (Tryz.prog.info? 45).map (fun i => (i.zero, i.size, i.bytes)) = some (some (.agg #[.int .i64 0, .string ⟨#[]⟩, .int .i64 0, .int .i64 0, .bool false]), 5, 48) := by kernel_rfl
theorem info_partsS {P : Program} {e : TypeId} {z : Value} {s b : Nat} (h : (P.info? e).map (fun i => (i.zero, i.size, i.bytes)) = some (some z, s, b)) : ∃ i, P.info? e = some i ∧ i.zero = some z ∧ i.size = s ∧ i.bytes = b := by
 cases h' : P.info? e with
 | none => rw [h'] at h; cases h
 | some i => rw [h'] at h; simp at h; exact ⟨i, rfl, h.1, h.2.1, h.2.2⟩
def SgRow (w : World) (B : Nat) (L : List Sg) (v : Value) : Prop := w.ownsRow B 45 5 v L.length (sgsV L)
theorem SgRow.shape {w : World} {B : Nat} {L : List Sg} {v : Value} (h : SgRow w B L v) : ∃ ao cap, v = .slice ao L.length cap ∧ cap ≤ maxLen ∧ L.length ≤ cap := by
 rcases h.2 with ⟨rfl, h0⟩ | ⟨g, cap, cur, rfl, hb, hh, h1, h2, h3, h4⟩
 · exact ⟨none, 0, by rw [h0], Nat.zero_le _, by omega⟩
 · exact ⟨_, cap, rfl, h2, h1⟩
theorem SgRow.keep {w w' : World} {B : Nat} {L : List Sg} {v : Value} (h : SgRow w B L v) (hb : Below w.heap.size w w') : SgRow w' B L v := by
 refine ⟨h.1, ?_⟩
 rcases h.2 with hn | ⟨g, cap, cur, e, h1, h2, h3⟩
 · exact Or.inl hn
 · exact Or.inr ⟨g, cap, cur, e, h1, (hb.block g (Array.getElem?_eq_some_iff.1 h2).1).trans h2, h3⟩
theorem SgRow.turn {w w' : World} {B : Nat} {L : List Sg} {v : Value} (h : SgRow w B L v) (hb : ∀ b, v.ownBlock = some b → w'.heap[b]? = w.heap[b]?) : SgRow w' B L v := by
 refine ⟨h.1, ?_⟩
 rcases h.2 with hn | ⟨g, cap, cur, e, h1, h2, h3⟩
 · exact Or.inl hn
 · exact Or.inr ⟨g, cap, cur, e, h1, (hb g (by rw [e]; rfl)).trans h2, h3⟩
theorem SgRow.nil (w : World) (B : Nat) : SgRow w B [] (.slice none 0 0) := ⟨by simp [sgsV], Or.inl ⟨rfl, rfl⟩⟩
theorem SgRow.new {w : World} {B : Nat} (hB : B ≤ w.heap.size) : SgRow (w.alloc (.cells #[] 45)) B [] (.slice (some ⟨w.heap.size, 0, none⟩) 0 0) :=
 ⟨by simp [sgsV], Or.inr ⟨w.heap.size, 0, #[], rfl, hB, heap_alloc_new w _, Nat.zero_le _, Nat.zero_le _, by simp, by simp [sgsV]⟩⟩
theorem SgRow.cells {w : World} {B : Nat} {L : List Sg} {v : Value} (h : SgRow w B L v) (hL : L ≠ []) : ∃ g cap, v = .slice (some ⟨g, 0, none⟩) L.length cap ∧ B ≤ g ∧ g < w.heap.size ∧ L.length ≤ cap ∧ cap ≤ maxLen ∧
   ∀ j (hj : j < L.length), w.cell? ⟨g, j * 5, none⟩ = some (.int .i64 L[j].kind) ∧ w.cell? ⟨g, j * 5 + 1, none⟩ = some (.string L[j].text) ∧ w.cell? ⟨g, j * 5 + 2, none⟩ = some (.int .i64 L[j].num) ∧ w.cell? ⟨g, j * 5 + 3, none⟩ = some (.int .i64 (L[j].at_ : Int)) ∧ w.cell? ⟨g, j * 5 + 4, none⟩ = some (.bool L[j].near) := by
 rcases h.2 with ⟨rfl, h0⟩ | ⟨g, cap, cur, rfl, hb, hh, h1, h2, h3, h4⟩
 · exact absurd (List.length_eq_zero_iff.1 h0) hL
 · refine ⟨g, cap, rfl, hb, (Array.getElem?_eq_some_iff.1 hh).1, h1, h2, fun j hj => ?_⟩
   have hc : ∀ k, k < 5 → w.cell? ⟨g, j * 5 + k, none⟩ = (sgCells L[j])[k]? := fun k hk => by
     have := h.cellAt (j * 5 + k) (by omega)
     rw [this, sgsV_at L j k hj hk]
   refine ⟨by simpa [sgCells] using hc 0 (by omega), by simpa [sgCells] using hc 1 (by omega), by simpa [sgCells] using hc 2 (by omega), by simpa [sgCells] using hc 3 (by omega), by simpa [sgCells] using hc 4 (by omega)⟩
end Go.Proofs.YtbkjcccbjnehbanGreatDoor

namespace Go.Proofs.YtbkjcccbjnehbanGreatDoor
open Go.RowKit
def LIn (w : World) (g : Nat) (L : List Sg) (lv : Value) : Prop := SgRow w 0 L lv ∧ ∀ b, lv.ownBlock = some b → b < g
theorem LIn.turn {w w' : World} {g : Nat} {L : List Sg} {lv : Value} (h : LIn w g L lv) (hb : ∀ k, k < g → w'.heap[k]? = w.heap[k]?) : LIn w' g L lv := ⟨h.1.turn fun b e => hb b (h.2 b e), h.2⟩
def NRow (w : World) (B : Nat) (ns : List ByteArray) (v : Value) : Prop := w.ownsRow B 9 1 v ns.length (ns.map Value.string)
theorem NRow.turn {w w' : World} {B : Nat} {ns : List ByteArray} {v : Value} (h : NRow w B ns v) (hb : ∀ b, v.ownBlock = some b → w'.heap[b]? = w.heap[b]?) : NRow w' B ns v := by
 refine ⟨h.1, ?_⟩
 rcases h.2 with hn | ⟨g, cap, cur, e, h1, h2, h3⟩
 · exact Or.inl hn
 · exact Or.inr ⟨g, cap, cur, e, h1, (hb g (by rw [e]; rfl)).trans h2, h3⟩
theorem NRow.lt {w : World} {B : Nat} {ns : List ByteArray} {v : Value} (h : NRow w B ns v) : ∀ b, v.ownBlock = some b → B ≤ b ∧ b < w.heap.size := by
 intro b e
 rcases h.2 with ⟨rfl, _⟩ | ⟨g, cap, cur, rfl, h1, h2, h3⟩
 · cases e
 · simp [Value.ownBlock] at e; subst e; exact ⟨h1, (Array.getElem?_eq_some_iff.1 h2).1⟩
def XS (g : Nat) (nv : Value) : Nat → Prop := fun k => k = g ∨ nv.ownBlock = some k
structure SRd (g : Nat) (L : List Sg) (lv nv : Value) (w : World) (o : Option (Nat × St)) : Prop where
 ex : ∃ (a : Int) (bad : Bool) (dv : Int) (nms : List ByteArray), w.heap[g]? = some (.cells #[lv, .int .i64 a, .bool bad, .int .i64 dv, nv] 52 (0, 0)) ∧ LIn w g L lv ∧ NRow w (g + 1) nms nv ∧
   (match o with | none => bad = true | some (d, st) => bad = false ∧ dv = (d : Int) ∧ nms = st.names ∧ ∃ p : Nat, a = (p : Int) ∧ p ≤ L.length ∧ L.drop p = st.rest ∧ nms.length ≤ p)
theorem SRd.keep {g : Nat} {L : List Sg} {lv nv : Value} {w w' : World} {o : Option (Nat × St)} (h : SRd g L lv nv w o) (hb : Below w.heap.size w w') : SRd g L lv nv w' o := by
 obtain ⟨a, bad, dv, nms, h1, h2, h3, h4⟩ := h.ex
 have hg : g < w.heap.size := (Array.getElem?_eq_some_iff.1 h1).1
 exact ⟨a, bad, dv, nms, (hb.block g hg).trans h1, h2.turn fun k hk => hb.block k (by omega), h3.turn fun b e => hb.block b (h3.lt b e).2, h4⟩
theorem b5f {w : World} {g : Nat} {c0 c1 c2 c3 c4 : Value} {T : TypeId} (h : w.heap[g]? = some (.cells #[c0, c1, c2, c3, c4] T (0, 0))) :
   w.cell? ⟨g, 0, none⟩ = some c0 ∧ w.cell? ⟨g, 1, none⟩ = some c1 ∧ w.cell? ⟨g, 2, none⟩ = some c2 ∧ w.cell? ⟨g, 3, none⟩ = some c3 ∧ w.cell? ⟨g, 4, none⟩ = some c4 ∧ (∀ i, w.frozen? ⟨g, i, none⟩ = false) := by
 refine ⟨?_, ?_, ?_, ?_, ?_, ?_⟩
 · simp [World.cell?, h]
 · simp [World.cell?, h]
 · simp [World.cell?, h]
 · simp [World.cell?, h]
 · simp [World.cell?, h]
 · intro i; simp [World.frozen?, h]
theorem SRd.sign {g : Nat} {L : List Sg} {lv nv : Value} {w : World} {d : Nat} {x : Sg} {r : List Sg} {names : List ByteArray} (h : SRd g L lv nv w (some (d, ⟨x :: r, names⟩))) :
   ∃ (p lb cap : Nat), lv = .slice (some ⟨lb, 0, none⟩) L.length cap ∧ p < L.length ∧ L.drop (p + 1) = r ∧ names.length ≤ p ∧ w.heap[g]? = some (.cells #[lv, .int .i64 (p : Int), .bool false, .int .i64 (d : Int), nv] 52 (0, 0)) ∧ LIn w g L lv ∧ NRow w (g + 1) names nv ∧
     w.cell? ⟨lb, p * 5, none⟩ = some (.int .i64 x.kind) ∧ w.cell? ⟨lb, p * 5 + 1, none⟩ = some (.string x.text) ∧ w.cell? ⟨lb, p * 5 + 2, none⟩ = some (.int .i64 x.num) ∧ w.cell? ⟨lb, p * 5 + 3, none⟩ = some (.int .i64 (x.at_ : Int)) ∧ w.cell? ⟨lb, p * 5 + 4, none⟩ = some (.bool x.near) ∧ lb < g := by
 obtain ⟨a, bad, dv, nms, h1, h2, h3, h4⟩ := h.ex
 obtain ⟨rfl, rfl, rfl, p, rfl, hp, hd, hn⟩ := h4
 have hpl : p < L.length := by
   rcases Nat.lt_or_ge p L.length with h | h
   · exact h
   · rw [List.drop_eq_nil_of_le h] at hd; cases hd
 have hx : L[p] = x ∧ L.drop (p + 1) = r := by
   rw [List.drop_eq_getElem_cons hpl] at hd
   exact List.cons.inj hd
 obtain ⟨lb, cap, e, _, _, _, _, hc⟩ := h2.1.cells (by rintro rfl; simp at hpl)
 obtain ⟨k0, k1, k2, k3, k4⟩ := hc p hpl
 rw [hx.1] at k0 k1 k2 k3 k4
 exact ⟨p, lb, cap, e, hpl, hx.2, hn, h1, h2, h3, k0, k1, k2, k3, k4, h2.2 lb (by rw [e]; rfl)⟩
theorem SRd.last {g : Nat} {L : List Sg} {lv nv : Value} {w : World} {d : Nat} {names : List ByteArray} (h : SRd g L lv nv w (some (d, ⟨[], names⟩))) :
   ∃ (ao : Option Addr) (cap : Nat), lv = .slice ao L.length cap ∧ w.heap[g]? = some (.cells #[lv, .int .i64 (L.length : Int), .bool false, .int .i64 (d : Int), nv] 52 (0, 0)) := by
 obtain ⟨a, bad, dv, nms, h1, h2, h3, h4⟩ := h.ex
 obtain ⟨rfl, rfl, rfl, p, rfl, hp, hd, hn⟩ := h4
 have : p = L.length := by
   have := congrArg List.length hd
   simp at this; omega
 subst this
 obtain ⟨ao, cap, e, _⟩ := h2.1.shape
 exact ⟨ao, cap, e, h1⟩
theorem SRd.bad {g : Nat} {L : List Sg} {lv nv : Value} {w : World} (h : SRd g L lv nv w none) :
   ∃ (a dv : Int), w.heap[g]? = some (.cells #[lv, .int .i64 a, .bool true, .int .i64 dv, nv] 52 (0, 0)) := by
 obtain ⟨a, bad, dv, nms, h1, h2, h3, h4⟩ := h.ex
 obtain rfl : bad = true := h4
 exact ⟨a, dv, h1⟩
def isO (o : Option (Nat × St)) (kind : Int) (text : ByteArray) : Bool :=
 match o with
 | none => false
 | some (_, st) => match st.rest with
   | x :: _ => decide (x.kind = kind) && (decide (text.toList = []) || decide (x.text.toList = text.toList))
   | [] => false
set_option maxHeartbeats 4000000 in
theorem s_is (g : Nat) (L : List Sg) (lv nv : Value) (o : Option (Nat × St)) (kind : Int) (text : ByteArray) (w : World) (h : SRd g L lv nv w o) :
   Calls Tryz.prog 28 #[.pointer (some ⟨g, 0, none⟩), .int .i64 kind, .string text] w fun e w' => e = .returned (.bool (isO o kind text)) ∧ Below w.heap.size w w' := by
 rcases o with _ | ⟨d, ⟨_ | ⟨x, r⟩, names⟩⟩
 · obtain ⟨a, dv, hg⟩ := h.bad
   obtain ⟨c0, c1, c2, c3, c4, cf⟩ := b5f hg
   clear h hg cf
   go_enter Tryz.func28, Tryz.ntmps28
   go_upto_region 1 with fail
   go_quiet (fail)
   go_wp2
   go_ret
   exact ⟨rfl, ⟨rfl, rfl, rfl, Nat.le_refl _, fun _ _ => rfl⟩⟩
 · obtain ⟨ao, cap, rfl, hg⟩ := h.last
   obtain ⟨c0, c1, c2, c3, c4, cf⟩ := b5f hg
   obtain ⟨NL, hNL⟩ : ∃ NL, NL = L.length := ⟨_, rfl⟩
   rw [← hNL] at c0 c1
   have d1 : decide ((NL : Int) < (NL : Int)) = false := decide_eq_false (by omega)
   clear h hg cf hNL
   go_enter Tryz.func28, Tryz.ntmps28
   go_upto_region 1 with fail
   go_quiet (fail)
   go_wp2
   go_ret
   exact ⟨rfl, ⟨rfl, rfl, rfl, Nat.le_refl _, fun _ _ => rfl⟩⟩
 · obtain ⟨p, lb, cap, rfl, hp, _, _, hg, _, _, k0, k1, _⟩ := h.sign
   obtain ⟨c0, c1, c2, c3, c4, cf⟩ := b5f hg
   obtain ⟨NL, hNL⟩ : ∃ NL, NL = L.length := ⟨_, rfl⟩
   rw [← hNL] at c0 hp
   have d1 : decide ((p : Int) < (NL : Int)) = true := decide_eq_true (by omega)
   have d1' : decide (p < NL) = true := decide_eq_true hp
   clear h hg cf hNL
   obtain ⟨xk, xt, xn, xa, xb⟩ := x
   simp only at k0 k1
   by_cases hk : xk = kind
   · subst hk
     by_cases ht : text.toList = []
     · have HV : Hid (isO (some (d, ⟨⟨xk, xt, xn, xa, xb⟩ :: r, names⟩)) xk text = true) := by show _ = _; simp [isO, ht]
       go_enter Tryz.func28, Tryz.ntmps28
       go_upto_region 1 with fail
       go_quiet (fail)
       go_wp2
       go_ret
       exact ⟨by rw [HV.out]; rfl, ⟨rfl, rfl, rfl, Nat.le_refl _, fun _ _ => rfl⟩⟩
     · by_cases hx : xt.toList = text.toList
       · have HV : Hid (isO (some (d, ⟨⟨xk, xt, xn, xa, xb⟩ :: r, names⟩)) xk text = true) := by show _ = _; simp [isO, hx]
         go_enter Tryz.func28, Tryz.ntmps28
         go_upto_region 1 with fail
         go_quiet (fail)
         go_wp2
         go_ret
         exact ⟨by rw [HV.out]; rfl, ⟨rfl, rfl, rfl, Nat.le_refl _, fun _ _ => rfl⟩⟩
       · have HV : Hid (isO (some (d, ⟨⟨xk, xt, xn, xa, xb⟩ :: r, names⟩)) xk text = false) := by show _ = _; simp [isO, ht, hx]
         have hx2 : (xt.toList == text.toList) = false := by simpa using hx
         have ht2 : text.toList.isEmpty = false := by simpa using ht
         go_enter Tryz.func28, Tryz.ntmps28
         go_upto_region 1 with fail
         go_quiet (fail)
         go_wp2
         go_ret
         exact ⟨by rw [HV.out]; rfl, ⟨rfl, rfl, rfl, Nat.le_refl _, fun _ _ => rfl⟩⟩
   · have HV : Hid (isO (some (d, ⟨⟨xk, xt, xn, xa, xb⟩ :: r, names⟩)) kind text = false) := by show _ = _; simp [isO, hk]
     have hk2 : (xk == kind) = false := by simpa using hk
     go_enter Tryz.func28, Tryz.ntmps28
     go_upto_region 1 with fail
     go_quiet (fail)
     go_wp2
     go_ret
     exact ⟨by rw [HV.out]; rfl, ⟨rfl, rfl, rfl, Nat.le_refl _, fun _ _ => rfl⟩⟩
end Go.Proofs.YtbkjcccbjnehbanGreatDoor
