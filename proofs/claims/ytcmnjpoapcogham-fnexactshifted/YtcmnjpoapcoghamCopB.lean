/- slices.Clone of a row of terms: the same cells in a row of its own. -/
import Derived.Test.YtcmnjpoapcoghamRows
import Derived.Test.YtcmnjpoapcoghamCopP
import Derived.Test.YtcmnjpoapcoghamMrg2
import Derived.Maps.AppendAt
import Derived.ProofKit
namespace Go.Proofs.Ytcmnjpoapcogham
open Go.RowKit

theorem infoTC : (Try.prog.info? 28).map (fun i => (i.zero, i.size, i.bytes)) = some (some (.agg #[.int .i64 0, .string ⟨#[]⟩, .int .i64 0, .slice none 0 0]), 4, 56) := by kernel_rfl

theorem cellsOk_one {cs : List Value} {n L : Nat} (h : CellsOk cs n L) : ∀ u ∈ cs, u.oneCell' = true := by
  intro u hu
  obtain ⟨i, hi, rfl⟩ := List.getElem_of_mem hu
  have hl := h.1
  obtain ⟨k, s, i', ao, m, cap, b1, b2, b3, b4, b5⟩ := h.2 (i / 4) (by omega)
  have : i = i / 4 * 4 ∨ i = i / 4 * 4 + 1 ∨ i = i / 4 * 4 + 2 ∨ i = i / 4 * 4 + 3 := by omega
  have e : cs[i]? = some cs[i] := List.getElem?_eq_getElem hi
  rcases this with h | h | h | h
  · rw [← h, e] at b1; simp at b1; rw [b1]; rfl
  · rw [← h, e] at b2; simp at b2; rw [b2]; rfl
  · rw [← h, e] at b3; simp at b3; rw [b3]; rfl
  · rw [← h, e] at b4; simp at b4; rw [b4]; rfl

theorem slice_eql_nil (w : World) (a : Addr) (n cap : Nat) : (binOp .eql 26 (.slice (some a) n cap) (.slice none 0 0)).run Try.prog w = .ok (.bool false) w := by kernel_rfl

set_option maxHeartbeats 1000000 in
theorem clone_row (w : World) (b n cap L : Nat) (cs : List Value) (hrow : w.ownsRow 0 28 4 (.slice (some ⟨b, 0, none⟩) n cap) n cs) (hn : 0 < n) (hn2 : n ≤ 4194304) (hc : CellsOk cs n L) :
    Calls Try.prog 80 #[.slice (some ⟨b, 0, none⟩) n cap] w fun e w' => ∃ g cap', e = .returned (.slice (some ⟨g, 0, none⟩) n cap') ∧ w'.ownsRow 0 28 4 (.slice (some ⟨g, 0, none⟩) n cap') n cs ∧ w.heap.size ≤ g ∧ Below w.heap.size w w' := by
  obtain ⟨i0, hi, hz0, hz1, hz2⟩ := info_parts infoTC
  have HONE : Hid (∀ u ∈ cs, u.oneCell' = true) := cellsOk_one hc
  have HL : Hid (cs.length = n * 4) := hc.1
  have HCELL : Hid (∀ j u, cs[j]? = some u → (w.alloc (.cells #[] 28)).cell? ((⟨b, 0, none⟩ : Addr).add j) = some u) := fun j u hj => by
    have hjl : j < cs.length := (List.getElem?_eq_some_iff.1 hj).1
    have h1 := hrow.cellAt j (by rw [← hrow.1]; exact hjl)
    have hlt := (hrow.lt b rfl).2
    rw [Addr.add_lit, Nat.zero_add]
    exact cell_keep (h1.trans hj) ((Below.refl _ _).alloc (Nat.le_refl _) _)
  have hnil := fun w => slice_eql_nil w ⟨b, 0, none⟩ n cap
  have hown0 : (w.alloc (.cells #[] 28)).ownsRow w.heap.size 28 4 (.slice (some ⟨w.heap.size, 0, none⟩) 0 0) 0 [] := ⟨by simp, Or.inr ⟨w.heap.size, 0, #[], rfl, Nat.le_refl _, heap_alloc_new w _, Nat.le_refl _, Nat.zero_le _, rfl, rfl⟩⟩
  have HOWN : Hid _ := hown0
  clear hc hrow hown0
  go_enter Try.func80, Try.ntmps80
  go_wp2_with (at_builtin; refine wpList_append_own_at _ rfl _ _ 26 rfl w.heap.size 28 i0 (.agg #[.int .i64 0, .string ⟨#[]⟩, .int .i64 0, .slice none 0 0]) 4 56 Try.underlying26 hi hz0 hz1 hz2 rfl (by decide) _ _ _ rfl HOWN.out ⟨b, 0, none⟩ n cap cs rfl HL.out HCELL.out HONE.out ?c3 ?c4 ?c5 ?_)
  case c3 => unfold maxLen; omega
  case c4 => omega
  · intro v' w5 hown' hgrow _ hat
    have HFIN : Hid (∃ g cap', v' = .slice (some ⟨g, 0, none⟩) n cap' ∧ w5.ownsRow 0 28 4 (.slice (some ⟨g, 0, none⟩) n cap') n cs ∧ w.heap.size ≤ g ∧ Below w.heap.size w w5) := by
      rcases hown'.2 with ⟨_, h⟩ | ⟨g, cap', cur, rfl, h1, h2, h3⟩
      · omega
      · refine ⟨g, cap', rfl, ⟨hown'.1, Or.inr ⟨g, cap', cur, rfl, Nat.zero_le _, h2, h3⟩⟩, h1, ?_⟩
        have hb0 : Below w.heap.size w (w.alloc (.cells #[] 28)) := (Below.refl _ _).alloc (Nat.le_refl _) _
        refine ⟨hgrow.os.trans hb0.os, hgrow.tape.trans hb0.tape, hgrow.output.trans hb0.output, Nat.le_trans hb0.size hgrow.size, fun k hk => (hgrow.block k (by simp; omega) ?_).trans (hb0.block k hk)⟩
        simp [Value.ownBlock]; omega
    clear hown' hgrow hat HOWN HCELL HONE HL
    obtain ⟨g, cap', rfl, r1, r2, r3⟩ := HFIN.out
    go_wp2
    go_ret
    exact ⟨g, cap', rfl, r1, r2, r3⟩
end Go.Proofs.Ytcmnjpoapcogham
