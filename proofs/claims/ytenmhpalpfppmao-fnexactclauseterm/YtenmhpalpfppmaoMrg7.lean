/- Four texts in one. -/
import Derived.Test.YtenmhpalpfppmaoRows
import Derived.Test.YtenmhpalpfppmaoMrg6
import Derived.Test.YtenmhpalpfppmaoMrg3
import Derived.Maps.AppendAt
import Derived.ProofKit
import Derived.Test.YtenmhpalpfppmaoMrg2
import Derived.WalkKit
import Derived.LaidEql
import Derived.MapKept
/- slices.Clone of a row of terms: the same cells in a row of its own. -/
namespace Go.Proofs.Ytenmhpalpfppmao
open Go.RowKit

theorem infoTC : (Try.prog.info? 31).map (fun i => (i.zero, i.size, i.bytes)) = some (some (.agg #[.int .i64 0, .string ⟨#[]⟩, .int .i64 0, .slice none 0 0]), 4, 56) := by kernel_rfl

theorem cellsOk_one {cs : List Value} {n L : Nat} (h : CellsOk cs n L) : ∀ u ∈ cs, u.oneCell' = true := by
  intro u hu
  obtain ⟨i, hi, rfl⟩ := List.getElem_of_mem hu
  have hl := h.1
  obtain ⟨k, s, i', ao, m, cap, b1, b2, b3, b4, b5⟩ := h.2 (i / 4) (by omega)
  have : i = i / 4 * 4 ∨ i = i / 4 * 4 + 1 ∨ i = i / 4 * 4 + 2 ∨ i = i / 4 * 4 + 3 := by omega
  have e : cs[i]? = some cs[i] := List.getElem?_eq_getElem hi
  rcases this with h | h | h | h
  · rw [← h, e] at b1; simp at b1; rw [b1]; rfl
  · rw [← h, e] at b2; simp at b2; rw [b2]; rfl
  · rw [← h, e] at b3; simp at b3; rw [b3]; rfl
  · rw [← h, e] at b4; simp at b4; rw [b4]; rfl

theorem slice_eql_nil (w : World) (a : Addr) (n cap : Nat) : (binOp .eql 29 (.slice (some a) n cap) (.slice none 0 0)).run Try.prog w = .ok (.bool false) w := by kernel_rfl

set_option maxHeartbeats 1000000 in
theorem clone_row (w : World) (b n cap L : Nat) (cs : List Value) (hrow : w.ownsRow 0 31 4 (.slice (some ⟨b, 0, none⟩) n cap) n cs) (hn : 0 < n) (hn2 : n ≤ 4194304) (hc : CellsOk cs n L) :
    Calls Try.prog 38 #[.slice (some ⟨b, 0, none⟩) n cap] w fun e w' => ∃ g cap', e = .returned (.slice (some ⟨g, 0, none⟩) n cap') ∧ w'.ownsRow 0 31 4 (.slice (some ⟨g, 0, none⟩) n cap') n cs ∧ w.heap.size ≤ g ∧ Below w.heap.size w w' := by
  obtain ⟨i0, hi, hz0, hz1, hz2⟩ := info_parts infoTC
  have HONE : Hid (∀ u ∈ cs, u.oneCell' = true) := cellsOk_one hc
  have HL : Hid (cs.length = n * 4) := hc.1
  have HCELL : Hid (∀ j u, cs[j]? = some u → (w.alloc (.cells #[] 31)).cell? ((⟨b, 0, none⟩ : Addr).add j) = some u) := fun j u hj => by
    have hjl : j < cs.length := (List.getElem?_eq_some_iff.1 hj).1
    have h1 := hrow.cellAt j (by rw [← hrow.1]; exact hjl)
    have hlt := (hrow.lt b rfl).2
    rw [Addr.add_lit, Nat.zero_add]
    exact cell_keep (h1.trans hj) ((Below.refl _ _).alloc (Nat.le_refl _) _)
  have hnil := fun w => slice_eql_nil w ⟨b, 0, none⟩ n cap
  have hown0 : (w.alloc (.cells #[] 31)).ownsRow w.heap.size 31 4 (.slice (some ⟨w.heap.size, 0, none⟩) 0 0) 0 [] := ⟨by simp, Or.inr ⟨w.heap.size, 0, #[], rfl, Nat.le_refl _, heap_alloc_new w _, Nat.le_refl _, Nat.zero_le _, rfl, rfl⟩⟩
  have HOWN : Hid _ := hown0
  clear hc hrow hown0
  go_enter Try.func38, Try.ntmps38
  go_wp2_with (at_builtin; refine wpList_append_own_at _ rfl _ _ 29 rfl w.heap.size 31 i0 (.agg #[.int .i64 0, .string ⟨#[]⟩, .int .i64 0, .slice none 0 0]) 4 56 Try.underlying29 hi hz0 hz1 hz2 rfl (by decide) _ _ _ rfl HOWN.out ⟨b, 0, none⟩ n cap cs rfl HL.out HCELL.out HONE.out ?c3 ?c4 ?c5 ?_)
  case c3 => unfold maxLen; omega
  case c4 => omega
  · intro v' w5 hown' hgrow _ hat
    have HFIN : Hid (∃ g cap', v' = .slice (some ⟨g, 0, none⟩) n cap' ∧ w5.ownsRow 0 31 4 (.slice (some ⟨g, 0, none⟩) n cap') n cs ∧ w.heap.size ≤ g ∧ Below w.heap.size w w5) := by
      rcases hown'.2 with ⟨_, h⟩ | ⟨g, cap', cur, rfl, h1, h2, h3⟩
      · omega
      · refine ⟨g, cap', rfl, ⟨hown'.1, Or.inr ⟨g, cap', cur, rfl, Nat.zero_le _, h2, h3⟩⟩, h1, ?_⟩
        have hb0 : Below w.heap.size w (w.alloc (.cells #[] 31)) := (Below.refl _ _).alloc (Nat.le_refl _) _
        refine ⟨hgrow.os.trans hb0.os, hgrow.tape.trans hb0.tape, hgrow.output.trans hb0.output, Nat.le_trans hb0.size hgrow.size, fun k hk => (hgrow.block k (by simp; omega) ?_).trans (hb0.block k hk)⟩
        simp [Value.ownBlock]; omega
    clear hown' hgrow hat HOWN HCELL HONE HL
    obtain ⟨g, cap', rfl, r1, r2, r3⟩ := HFIN.out
    go_wp2
    go_ret
    exact ⟨g, cap', rfl, r1, r2, r3⟩
end Go.Proofs.Ytenmhpalpfppmao

/- Rows in blocks of their own: a cell set, a block kept. Of no program. -/
namespace Go.Proofs.Ytenmhpalpfppmao
open Go.RowKit

theorem row_set {w : World} {e size n g cap i : Nat} {cs : List Value} {v : Value} (h : w.ownsRow 0 e size (.slice (some ⟨g, 0, none⟩) n cap) n cs) : (w.setCell ⟨g, i, none⟩ v).ownsRow 0 e size (.slice (some ⟨g, 0, none⟩) n cap) n (cs.set i v) := by
  refine ⟨by rw [List.length_set]; exact h.1, ?_⟩
  rcases h.2 with ⟨h, _⟩ | ⟨g', cap', cur, h1, h2, h3, h4, h5, h6, h7⟩
  · cases h
  · cases h1
    refine Or.inr ⟨g, cap, cur.setIfInBounds i v, rfl, h2, blk_set h3 v, h4, h5, by simpa using h6, ?_⟩
    rw [Array.toList_setIfInBounds, List.take_set, h7]
theorem row_set_same {w : World} {e size n g cap i : Nat} {cs : List Value} {v : Value} (h : w.ownsRow 0 e size (.slice (some ⟨g, 0, none⟩) n cap) n cs) (hi : cs[i]? = some v) : (w.setCell ⟨g, i, none⟩ v).ownsRow 0 e size (.slice (some ⟨g, 0, none⟩) n cap) n cs := by
  have := row_set (i := i) (v := v) h
  obtain ⟨h1, rfl⟩ := List.getElem?_eq_some_iff.1 hi
  rwa [List.set_getElem_self h1] at this
theorem row_lt0 {w : World} {e size n : Nat} {v : Value} {xs : List Value} (h : w.ownsRow 0 e size v n xs) {b : Nat} (hb : v.ownBlock = some b) : b < w.heap.size := by
  rcases h.2 with ⟨rfl, _⟩ | ⟨b', cap, cur, rfl, h1, h2, h3⟩
  · cases hb
  · cases hb; exact (Array.getElem?_eq_some_iff.1 h2).1
theorem row_frozen {w : World} {e size n g cap : Nat} {cs : List Value} (h : w.ownsRow 0 e size (.slice (some ⟨g, 0, none⟩) n cap) n cs) (i : Nat) : w.frozen? ⟨g, i, none⟩ = false := by
  rcases h.2 with ⟨h, _⟩ | ⟨g', cap', cur, h1, h2, h3, _⟩
  · cases h
  · cases h1; exact blk_frozen h3 i

theorem row_turn0 {w w' : World} {e size n : Nat} {v : Value} {xs : List Value} (h : w.ownsRow 0 e size v n xs) (hb : ∀ b, v.ownBlock = some b → w'.heap[b]? = w.heap[b]?) : w'.ownsRow 0 e size v n xs := by
  refine ⟨h.1, ?_⟩
  rcases h.2 with hn | ⟨b, cap, cur, e, h1, h2, h3⟩
  · exact Or.inl hn
  · exact Or.inr ⟨b, cap, cur, e, h1, (hb b (by rw [e]; rfl)).trans h2, h3⟩
end Go.Proofs.Ytenmhpalpfppmao

/- A slice of terms takes one cell. -/
namespace Go.Proofs.Ytenmhpalpfppmao
open Go.RowKit

theorem infoSl : (Try.prog.info? 29).map (fun i => (i.zero, i.size, i.bytes)) = some (some (.slice none 0 0), 1, 24) := by kernel_rfl
end Go.Proofs.Ytenmhpalpfppmao

/- Keys that are places: two addresses and a number; a world but for one block. -/
namespace Go.Proofs.Ytenmhpalpfppmao
open Go.RowKit

def pk (a : Addr) (b : Option Addr) (n : Int) : Value := .agg #[.pointer (some a), .pointer b, .int .i64 n]
/-- the block of a is one of cells, none of them frozen -/
def PB (w : World) (a : Addr) : Prop := ∃ cur T, w.heap[a.block]? = some (.cells cur T (0, 0))

theorem same_addr (w : World) (a b : Addr) (ha : PB w a) (hb : PB w b) : (sameAddr a b).run Try.prog w = .ok (decide (a = b)) w := by
  by_cases h : a = b
  · subst h
    rw [run_sameAddr_same, decide_eq_true rfl]
  · obtain ⟨c, t, h1⟩ := ha
    obtain ⟨c', t', h2⟩ := hb
    rw [run_sameAddr_other w h h1 h2, decide_eq_false h]

theorem held72 : Try.prog.stoodInHeld 72 = false := by kernel_rfl

theorem eq_ptr (d : Nat) (w : World) (a b : Addr) (ha : PB w a) (hb : PB w b) : (Op.equalIn (d + 1) 70 (.pointer (some a)) (.pointer (some b))).run Try.prog w = .ok (decide (a = b)) w := by
  have h : (sizeOf 31).run Try.prog w = .ok 4 w := by kernel_rfl
  simp [Op.equalIn, run_underlying Try.underlying70, h, same_addr w a b ha hb]

theorem isAggP (w : World) : (isAgg 70).run Try.prog w = .ok false w := by kernel_rfl
theorem isAggI (w : World) : (isAgg 3).run Try.prog w = .ok false w := by kernel_rfl

/-- a world but for one block -/
def setB (w : World) (m : Nat) (o : Obj) : World := { w with heap := w.heap.setIfInBounds m o }

theorem setB_at {w : World} {m : Nat} {o o' : Obj} (h : w.heap[m]? = some o') : (setB w m o).heap[m]? = some o := by
  have := (Array.getElem?_eq_some_iff.1 h).1
  simp [setB, this]
theorem setB_other {w : World} {m k : Nat} {o : Obj} (h : k ≠ m) : (setB w m o).heap[k]? = w.heap[k]? := by
  simp [setB, Ne.symm h]
end Go.Proofs.Ytenmhpalpfppmao
