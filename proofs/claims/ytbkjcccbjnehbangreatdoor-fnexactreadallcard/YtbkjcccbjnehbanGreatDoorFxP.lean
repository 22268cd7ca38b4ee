/- What a call leaves where some blocks may turn; terms in blocks of their own that stay. Of no program. -/
import Derived.Test.YtbkjcccbjnehbanGreatDoorTmOwn
import Derived.Test.YtbkjcccbjnehbanGreatDoorReadP
import Derived.Laws.NewBlocks
namespace Go.Proofs.YtbkjcccbjnehbanGreatDoor
open Go.RowKit

/-- of what was there nothing has turned but the blocks of X; those of X' are of them, or new -/
structure FX (X X' : Nat → Prop) (w w' : World) : Prop where
  os : w'.os = w.os
  tape : w'.tape = w.tape
  output : w'.output = w.output
  size : w.heap.size ≤ w'.heap.size
  block : ∀ k, k < w.heap.size → ¬ X k → w'.heap[k]? = w.heap[k]?
  new : ∀ k, X' k → X k ∨ w.heap.size ≤ k
theorem FX.refl (X : Nat → Prop) (w : World) : FX X X w w := ⟨rfl, rfl, rfl, Nat.le_refl _, fun _ _ _ => rfl, fun _ h => Or.inl h⟩
theorem FX.trans {X Y Z : Nat → Prop} {a b c : World} (h : FX X Y a b) (k : FX Y Z b c) : FX X Z a c :=
  ⟨k.os.trans h.os, k.tape.trans h.tape, k.output.trans h.output, Nat.le_trans h.size k.size, fun i hi hx => (k.block i (Nat.lt_of_lt_of_le hi h.size) (fun hy => (h.new i hy).elim hx (fun h => by omega))).trans (h.block i hi hx),
   fun i hz => (k.new i hz).elim (h.new i) (fun hl => Or.inr (Nat.le_trans h.size hl))⟩
theorem FX.of_below {X : Nat → Prop} {w w' : World} (h : Below w.heap.size w w') : FX X X w w' := ⟨h.os, h.tape, h.output, h.size, fun k hk _ => h.block k hk, fun _ h => Or.inl h⟩
theorem FX.to {X X' Y : Nat → Prop} {w w' : World} (h : FX X X' w w') (hy : ∀ k, Y k → X' k) : FX X Y w w' := ⟨h.os, h.tape, h.output, h.size, h.block, fun k hk => h.new k (hy k hk)⟩
theorem FX.alloc {X X' : Nat → Prop} {w w' : World} (h : FX X X' w w') (o : Obj) : FX X X' w (w'.alloc o) := h.trans (FX.of_below ((Below.refl _ _).alloc (Nat.le_refl _) _))
/-- a store into a block of X' or a new one -/
theorem FX.set {X X' : Nat → Prop} {w w' : World} (h : FX X X' w w') {g i : Nat} (hg : X g ∨ w.heap.size ≤ g) (v : Value) : FX X X' w (w'.setCell ⟨g, i, none⟩ v) :=
  ⟨h.os, h.tape, h.output, by simpa [World.setCell] using h.size, fun k hk hx => by
    have : g ≠ k := by rintro rfl; exact hg.elim hx (fun hl => by omega)
    rw [← h.block k hk hx]
    simp [World.setCell, Array.getElem?_modify, this], h.new⟩
theorem FX.below {X X' : Nat → Prop} {w w' : World} (h : FX X X' w w') {B : Nat} (hB : B ≤ w.heap.size) (hx : ∀ k, X k → B ≤ k) : Below B w w' :=
  ⟨h.os, h.tape, h.output, h.size, fun k hk => h.block k (by omega) (fun hh => by have := hx k hh; omega)⟩

/-- the value v is the term t, its rows in blocks of its own, from lo on, none of them of X -/
structure TOk (e : TypeId) (X : Nat → Prop) (lo : Nat) (w : World) (t : Tm) (v : Value) (F : List Nat) : Prop where
  own : Own e w t v F
  nd : F.Nodup
  out : ∀ f ∈ F, lo ≤ f ∧ ¬ X f
theorem TOk.lt {e : TypeId} {X : Nat → Prop} {lo : Nat} {w : World} {t : Tm} {v : Value} {F : List Nat} (h : TOk e X lo w t v F) : ∀ f ∈ F, f < w.heap.size := Own.lt t v F h.own
theorem TOk.step {e : TypeId} {X X' : Nat → Prop} {lo : Nat} {w w' : World} {t : Tm} {v : Value} {F : List Nat} (h : TOk e X lo w t v F) (hf : FX X X' w w') : TOk e X' lo w' t v F :=
  ⟨Own.keep t v F h.own fun f hm => hf.block f (h.lt f hm) (h.out f hm).2, h.nd, fun f hm => ⟨(h.out f hm).1, fun hx => (hf.new f hx).elim (h.out f hm).2 (fun hl => by have := h.lt f hm; omega)⟩⟩
theorem TOk.lo_le {e : TypeId} {X : Nat → Prop} {lo lo' : Nat} {w : World} {t : Tm} {v : Value} {F : List Nat} (h : TOk e X lo w t v F) (hl : lo' ≤ lo) : TOk e X lo' w t v F :=
  ⟨h.own, h.nd, fun f hm => ⟨Nat.le_trans hl (h.out f hm).1, (h.out f hm).2⟩⟩
/-- a term without a row -/
theorem TOk.leaf {e : TypeId} {X : Nat → Prop} {lo : Nat} {w : World} {k n : Int} {s : ByteArray} (hk : -9223372036854775808 ≤ k ∧ k ≤ 9223372036854775807) (hn : -9223372036854775808 ≤ n ∧ n ≤ 9223372036854775807) (hs : s.size ≤ maxLen) :
    TOk e X lo w (.mk k s n []) (.agg #[.int .i64 k, .string s, .int .i64 n, .slice none 0 0]) [] :=
  ⟨own_mk (Or.inl ⟨rfl, rfl, rfl⟩) hk hn hs, List.nodup_nil, fun f h => by cases h⟩

/-- a row of terms in a block of its own -/
structure ROk (e : TypeId) (X : Nat → Prop) (lo : Nat) (w : World) (ks : List Tm) (sl : Value) (F : List Nat) : Prop where
  own : OwnS e w ks sl F
  nd : F.Nodup
  out : ∀ f ∈ F, lo ≤ f ∧ ¬ X f
theorem OwnS.lt {e : TypeId} {w : World} {ks : List Tm} {sl : Value} {F : List Nat} (h : OwnS e w ks sl F) : ∀ f ∈ F, f < w.heap.size := by
  rcases h with ⟨_, _, rfl⟩ | ⟨g, cap, cs, F', rfl, h5, rfl, h6⟩
  · intro f hf; cases hf
  · intro f hf
    rcases List.mem_cons.1 hf with rfl | hf
    · exact (h5.lt _ rfl).2
    · exact OwnRow.lt ks cs F' h6 f hf
theorem ROk.lt {e : TypeId} {X : Nat → Prop} {lo : Nat} {w : World} {ks : List Tm} {sl : Value} {F : List Nat} (h : ROk e X lo w ks sl F) : ∀ f ∈ F, f < w.heap.size := OwnS.lt h.own
theorem ROk.step {e : TypeId} {X X' : Nat → Prop} {lo : Nat} {w w' : World} {ks : List Tm} {sl : Value} {F : List Nat} (h : ROk e X lo w ks sl F) (hf : FX X X' w w') : ROk e X' lo w' ks sl F :=
  ⟨h.own.keep fun f hm => hf.block f (h.lt f hm) (h.out f hm).2, h.nd, fun f hm => ⟨(h.out f hm).1, fun hx => (hf.new f hx).elim (h.out f hm).2 (fun hl => by have := h.lt f hm; omega)⟩⟩
theorem ROk.nil {e : TypeId} {X : Nat → Prop} {lo : Nat} {w : World} : ROk e X lo w [] (.slice none 0 0) [] := ⟨Or.inl ⟨rfl, rfl, rfl⟩, List.nodup_nil, fun f h => by cases h⟩
theorem ROk.tm {e : TypeId} {X : Nat → Prop} {lo : Nat} {w : World} {ks : List Tm} {sl : Value} {F : List Nat} {s : ByteArray} (h : ROk e X lo w ks sl F) (hs : s.size ≤ maxLen) :
    TOk e X lo w (structTm s ks) (.agg #[.int .i64 4, .string s, .int .i64 0, sl]) F :=
  ⟨own_mk h.own (by omega) (by omega) hs, h.nd, h.out⟩

/-- a new row of one term in block b -/
theorem ROk.one {e : TypeId} {X : Nat → Prop} {lo : Nat} {w : World} {t : Tm} {c0 c1 c2 c3 : Value} {F : List Nat} (h : TOk e X lo w t (.agg #[c0, c1, c2, c3]) F) (hl : lo ≤ w.heap.size) (hx : ¬ X w.heap.size) :
    ROk e X lo (w.alloc (.cells #[c0, c1, c2, c3] e)) [t] (.slice (some ⟨w.heap.size, 0, none⟩) 1 1) (w.heap.size :: F) := by
  have hb : Below w.heap.size w (w.alloc (.cells #[c0, c1, c2, c3] e)) := (Below.refl _ _).alloc (Nat.le_refl _) _
  have h' : Own e (w.alloc (.cells #[c0, c1, c2, c3] e)) t (.agg #[c0, c1, c2, c3]) F := Own.keep t _ F h.own fun f hm => hb.block f (h.lt f hm)
  refine ⟨Or.inr ⟨w.heap.size, 1, [c0, c1, c2, c3], F, rfl, ⟨rfl, Or.inr ⟨w.heap.size, 1, #[c0, c1, c2, c3], rfl, Nat.zero_le _, heap_alloc_new w _, Nat.le_refl _, by decide, rfl, rfl⟩⟩, rfl, ?_⟩, ?_, ?_⟩
  · unfold OwnRow
    exact ⟨c0, c1, c2, c3, [], F, [], rfl, by simp, h', by unfold OwnRow; exact ⟨rfl, rfl⟩⟩
  · exact List.nodup_cons.2 ⟨fun hm => by have := h.lt _ hm; omega, h.nd⟩
  · intro f hm
    rcases List.mem_cons.1 hm with rfl | hm
    · exact ⟨hl, hx⟩
    · exact h.out f hm
/-- .. of two -/
theorem ROk.two {e : TypeId} {X : Nat → Prop} {lo : Nat} {w : World} {t u : Tm} {c0 c1 c2 c3 d0 d1 d2 d3 : Value} {F G : List Nat} (h : TOk e X lo w t (.agg #[c0, c1, c2, c3]) F) (k : TOk e X lo w u (.agg #[d0, d1, d2, d3]) G) (hd : ∀ f ∈ F, ∀ g ∈ G, f ≠ g) (hl : lo ≤ w.heap.size) (hx : ¬ X w.heap.size) :
    ROk e X lo (w.alloc (.cells #[c0, c1, c2, c3, d0, d1, d2, d3] e)) [t, u] (.slice (some ⟨w.heap.size, 0, none⟩) 2 2) (w.heap.size :: (F ++ G)) := by
  have hb : Below w.heap.size w (w.alloc (.cells #[c0, c1, c2, c3, d0, d1, d2, d3] e)) := (Below.refl _ _).alloc (Nat.le_refl _) _
  have h' := Own.keep (w' := w.alloc (.cells #[c0, c1, c2, c3, d0, d1, d2, d3] e)) t _ F h.own fun f hm => hb.block f (h.lt f hm)
  have k' := Own.keep (w' := w.alloc (.cells #[c0, c1, c2, c3, d0, d1, d2, d3] e)) u _ G k.own fun f hm => hb.block f (k.lt f hm)
  refine ⟨Or.inr ⟨w.heap.size, 2, [c0, c1, c2, c3, d0, d1, d2, d3], F ++ G, rfl, ⟨rfl, Or.inr ⟨w.heap.size, 2, #[c0, c1, c2, c3, d0, d1, d2, d3], rfl, Nat.zero_le _, heap_alloc_new w _, Nat.le_refl _, by decide, rfl, rfl⟩⟩, rfl, ?_⟩, ?_, ?_⟩
  · unfold OwnRow
    refine ⟨c0, c1, c2, c3, [d0, d1, d2, d3], F, G, rfl, rfl, h', ?_⟩
    unfold OwnRow
    exact ⟨d0, d1, d2, d3, [], G, [], rfl, by simp, k', by unfold OwnRow; exact ⟨rfl, rfl⟩⟩
  · refine List.nodup_cons.2 ⟨fun hm => ?_, List.nodup_append.2 ⟨h.nd, k.nd, hd⟩⟩
    rcases List.mem_append.1 hm with hm | hm
    · have := h.lt _ hm; omega
    · have := k.lt _ hm; omega
  · intro f hm
    rcases List.mem_cons.1 hm with rfl | hm
    · exact ⟨hl, hx⟩
    · rcases List.mem_append.1 hm with hm | hm
      · exact h.out f hm
      · exact k.out f hm
end Go.Proofs.YtbkjcccbjnehbanGreatDoor
