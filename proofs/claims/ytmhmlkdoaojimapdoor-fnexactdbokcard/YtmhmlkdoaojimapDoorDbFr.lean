/- A Db in memory of its own, for the laws' frames. -/
import Derived.Test.YtmhmlkdoaojimapDoorDbTo
import Derived.Test.YtmhmlkdoaojimapDoorOpnD
import Derived.Test.YtmhmlkdoaojimapDoorMrg11
namespace Go.Proofs.YtmhmlkdoaojimapDoor
open Go.RowKit

/-- the texts as lists of bytes -/
def strL (xs : List ByteArray) : List (List UInt8) := xs.map fun x => x.data.toList
theorem strL_v (xs : List ByteArray) : strsV (strL xs) = xs.map Value.string := by
  simp [strsV, strL]
theorem strL_len (xs : List ByteArray) : (strL xs).length = xs.length := by simp [strL]

/-- the clauses and the names, each row in blocks of its own -/
def DbOwn (w : World) (cs : List Cla) (xs : List ByteArray) (c0 c1 : Value) (F : List Nat) : Prop :=
  ∃ a p g k F0, c0 = .slice a cs.length p ∧ c1 = .slice (some ⟨g, 0, none⟩) xs.length k ∧ OwnClS 57 46 w cs c0 F0 ∧ w.ownsRow 0 9 1 c1 xs.length (xs.map Value.string) ∧ F = F0 ++ [g] ∧ F.Nodup
theorem dbOwn_of {w : World} {cs : List Cla} {xs : List ByteArray} {sl : Value} {F : List Nat} {g k : Nat} (h1 : OwnClS 57 46 w cs sl F) (h2 : w.ownsRow 0 9 1 (.slice (some ⟨g, 0, none⟩) xs.length k) xs.length (xs.map Value.string)) (h3 : F.Nodup) (h4 : g ∉ F) : DbOwn w cs xs sl (.slice (some ⟨g, 0, none⟩) xs.length k) (F ++ [g]) := by
  obtain ⟨a, p, rfl⟩ := ownClS_shape h1
  exact ⟨a, p, g, k, F, rfl, rfl, h1, h2, rfl, List.nodup_append.2 ⟨h3, by simp, fun x hx y hy e => h4 (by simp at hy; rw [← hy, ← e]; exact hx)⟩⟩
theorem DbOwn.lt {w : World} {cs : List Cla} {xs : List ByteArray} {c0 c1 : Value} {F : List Nat} (h : DbOwn w cs xs c0 c1 F) : ∀ x ∈ F, x < w.heap.size := by
  obtain ⟨a, p, g, k, F0, rfl, rfl, h1, h2, rfl, _⟩ := h
  intro x hx
  rcases List.mem_append.1 hx with hx | hx
  · exact h1.lt x hx
  · obtain rfl : x = g := by simpa using hx
    exact (h2.lt x rfl).2
theorem DbOwn.keep {w w' : World} {cs : List Cla} {xs : List ByteArray} {c0 c1 : Value} {F : List Nat} (h : DbOwn w cs xs c0 c1 F) (hF : ∀ x ∈ F, w'.heap[x]? = w.heap[x]?) : DbOwn w' cs xs c0 c1 F := by
  obtain ⟨a, p, g, k, F0, rfl, rfl, h1, h2, rfl, h3⟩ := h
  exact ⟨a, p, g, k, F0, rfl, rfl, h1.keep fun f hf => hF f (by simp [hf]), row_keep h2 (hF g (by simp)), rfl, h3⟩
theorem DbOwn.below {w w' : World} {cs : List Cla} {xs : List ByteArray} {c0 c1 : Value} {F : List Nat} (h : DbOwn w cs xs c0 c1 F) (hb : Below w.heap.size w w') : DbOwn w' cs xs c0 c1 F := h.keep fun x hx => hb.block x (h.lt x hx)
theorem DbOwn.shape {w : World} {cs : List Cla} {xs : List ByteArray} {c0 c1 : Value} {F : List Nat} (h : DbOwn w cs xs c0 c1 F) : ∃ a p b l k, c0 = .slice a cs.length p ∧ c1 = .slice b l k := by
  obtain ⟨a, p, g, k, F0, rfl, rfl, _⟩ := h
  exact ⟨a, p, _, _, k, rfl, rfl⟩

theorem to_dbO (cs : List Cla) (xs : List ByteArray) (w : World) (c0 c1 : Value) (h : ClsIn w cs c0) (hx : SsIn w xs c1) (hl1 : cs.length + claWts cs ≤ 1048576) (hl2 : xs.length ≤ 1048576) :
    Calls Tryd.prog 9 #[.agg #[c0, c1]] w fun e w' => ∃ d0 d1 F, e = .returned (.agg #[d0, d1]) ∧ DbOwn w' cs xs d0 d1 F ∧ (∀ x ∈ F, w.heap.size ≤ x) ∧ Below w.heap.size w w' := by
  refine Calls.mono (to_db cs xs w c0 c1 h hx hl1 hl2) ?_
  rintro e w' ⟨sl, F, g, rfl, o1, o2, o3, o4, o5, o6, o7⟩
  refine ⟨_, _, _, rfl, dbOwn_of o1 o2 o4 o6, fun x hx => ?_, o7⟩
  rcases List.mem_append.1 hx with hx | hx
  · exact o3 x hx
  · obtain rfl : x = g := by simpa using hx
    exact o5
theorem eq_dbO (cs : List Cla) (xs : List ByteArray) (w : World) (c0 c1 d0 d1 : Value) (F G : List Nat) (h : DbOwn w cs xs c0 c1 F) (h' : DbOwn w cs xs d0 d1 G) (hl : xs.length ≤ 1100000) :
    Calls Tryd.prog 11 #[.agg #[c0, c1], .agg #[d0, d1]] w fun e w' => e = .returned (.bool true) ∧ Below w.heap.size w w' := by
  obtain ⟨a, p, g, k, F0, rfl, rfl, h1, h2, rfl, _⟩ := h
  obtain ⟨a', p', g', k', F0', rfl, rfl, h1', h2', rfl, _⟩ := h'
  have q1 := h2
  have q2 := h2'
  rw [← strL_v, ← strL_len xs] at q1 q2
  have := eq_db cs (strL xs) w _ _ _ _ h1.toIn h1'.toIn (by rw [strL_len]; exact hl) q1 q2
  rw [strL_len] at this
  exact this
/-- as an argument of one that only reads it -/
theorem DbOwn.args {w : World} {cs : List Cla} {xs : List ByteArray} {c0 c1 : Value} {F : List Nat} (h : DbOwn w cs xs c0 c1 F) (hs : ∀ x ∈ xs, x.size ≤ maxLen) : ClsIn w cs c0 ∧ SsIn w xs c1 ∧ ∃ F0, OwnClS 57 46 w cs c0 F0 ∧ F0.Nodup := by
  obtain ⟨a, p, g, k, F0, rfl, rfl, h1, h2, rfl, h3⟩ := h
  exact ⟨h1.toIn, owns_ss h2 hs, F0, h1, (List.nodup_append.1 h3).1⟩
end Go.Proofs.YtmhmlkdoaojimapDoor
