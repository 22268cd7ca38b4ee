/- laws.szBinds, laws.toBinds: how large a list is, and a copy of it. -/
import Derived.Test.YtdcphfcenaafbamBindL
import Derived.Test.YtdcphfcenaafbamTmSz
namespace Go.Proofs.Ytdcphfcenaafbam
open Go.RowKit

set_option maxRecDepth 20000 in
theorem sz_binds (ks : List Tm) (w : World) (sl : Value) (left : Nat) (h : SlIn w ks sl) (hl : left ≤ 1048576) :
    Calls Try.prog 20 #[.agg #[sl], .int .i64 (left : Int)] w fun e w' => e = .returned (.int .i64 (szR (ks.length + wts ks) left)) ∧ Below w.heap.size w w' := by
  obtain ⟨W, hW⟩ : ∃ W, W = w.alloc (.cells #[sl] 41) := ⟨_, rfl⟩
  have bW : Below w.heap.size w W := by rw [hW]; exact (Below.refl _ _).alloc (Nat.le_refl _) _
  obtain ⟨ao, cap, rfl, h1, h2, h3⟩ := h.keep bW
  have HC := sz_terms ks (fun t _ => sz_term t) W ao cap left (by omega) h3 hl
  rw [hW] at HC
  replace HC : Hid _ := HC
  have HBW : Hid (Below w.heap.size w W) := bW
  clear h h3 bW
  by_cases hle : ks.length + wts ks ≤ left
  · rw [show szR (ks.length + wts ks) left = ((left - (ks.length + wts ks) : Nat) : Int) from if_pos hle] at HC ⊢
    have hl0 : ¬ ((left - (ks.length + wts ks) : Nat) : Int) < 0 := by omega
    generalize ((left - (ks.length + wts ks) : Nat) : Int) = R at *
    go_enter Try.func20, Try.ntmps20
    go_wp2_with (go_at_call 28; refine (Calls.mono HC.out ?_); rintro e w1 ⟨rfl, hb⟩; rw [← hW] at hb; have HB1 : Hid (Below w.heap.size w w1) := HBW.out.trans (hb.mono HBW.out.size); clear hb)
    go_ret
    exact ⟨rfl, HB1.out⟩
  · rw [show szR (ks.length + wts ks) left = -1 from if_neg hle] at HC ⊢
    go_enter Try.func20, Try.ntmps20
    go_wp2_with (go_at_call 28; refine (Calls.mono HC.out ?_); rintro e w1 ⟨rfl, hb⟩; rw [← hW] at hb; have HB1 : Hid (Below w.heap.size w w1) := HBW.out.trans (hb.mono HBW.out.size); clear hb)
    go_ret
    exact ⟨rfl, HB1.out⟩

set_option maxRecDepth 20000 in
theorem to_binds (ks : List Tm) (w : World) (sl : Value) (h : SlIn w ks sl) (hl : ks.length + wts ks ≤ 1048576) :
    Calls Try.prog 22 #[.agg #[sl]] w fun e w' => ∃ s2 F, e = .returned (.agg #[s2]) ∧ OwnS 28 w' ks s2 F ∧ (∀ f ∈ F, w.heap.size ≤ f) ∧ F.Nodup ∧ Below w.heap.size w w' := by
  obtain ⟨W, hW⟩ : ∃ W, W = ((w.alloc (.cells #[sl] 41)).alloc (.cells #[.slice none 0 0] 35)).alloc (.cells #[.slice none 0 0] 35) := ⟨_, rfl⟩
  have bW : Below w.heap.size w W := by rw [hW]; exact (((Below.refl _ _).alloc (Nat.le_refl _) _).alloc (by simp) _).alloc (by simp; omega) _
  have lW : W.heap.size = w.heap.size + 3 := by rw [hW]; simp
  have k1 : W.heap[w.heap.size + 1]? = some (.cells #[.slice none 0 0] 35 (0, 0)) := by rw [hW]; exact (alloc_old _ _ (by simp)).trans (alloc_at _ _ (by simp))
  have k2 : W.heap[w.heap.size + 2]? = some (.cells #[.slice none 0 0] 35 (0, 0)) := by rw [hW]; exact alloc_at _ _ (by simp)
  obtain ⟨ao, cap, rfl, h1, h2, h3⟩ := h.keep bW
  have HC := to_terms ks (fun t _ => to_term t) W ao cap hl h3
  rw [hW] at HC
  replace HC : Hid _ := HC
  have HE : Hid (∀ s2 F w1, OwnS 28 w1 ks s2 F → (∀ f ∈ F, W.heap.size ≤ f) → Below W.heap.size W w1 → (∃ ao2 l2 c2, s2 = .slice ao2 l2 c2) ∧ w1.heap[w.heap.size + 1]? = some (.cells #[.slice none 0 0] 35 (0, 0)) ∧ w1.heap[w.heap.size + 2]? = some (.cells #[.slice none 0 0] 35 (0, 0)) ∧
      ∀ w2, w2 = (w1.setCell ⟨w.heap.size + 2, 0, none⟩ s2).setCell ⟨w.heap.size + 1, 0, none⟩ s2 → w2.heap[w.heap.size + 1]? = some (.cells #[s2] 35 (0, 0)) ∧ OwnS 28 w2 ks s2 F ∧ (∀ f ∈ F, w.heap.size ≤ f) ∧ Below w.heap.size w w2) := by
    intro s2 F w1 ho hf hb
    have q1 := (hb.block (w.heap.size + 1) (by omega)).trans k1
    have q2 := (hb.block (w.heap.size + 2) (by omega)).trans k2
    refine ⟨ownS_shape ho, q1, q2, fun w2 hw2 => ⟨?_, ho.keep fun f hf' => ?_, fun f hf' => ?_, ?_⟩⟩
    · rw [hw2]
      have : (w1.setCell ⟨w.heap.size + 2, 0, none⟩ s2).heap[w.heap.size + 1]? = some (.cells #[.slice none 0 0] 35 (0, 0)) := (blk_other _ (by omega)).trans q1
      simpa using blk_set (i := 0) this s2
    · have := hf f hf'
      rw [hw2, blk_other _ (by omega), blk_other _ (by omega)]
    · have := hf f hf'; omega
    · rw [hw2]
      exact below_set (below_set (bW.trans (hb.mono bW.size)) (by omega) _) (by omega) _
  clear h h3 bW k1 k2 lW
  go_enter Try.func22, Try.ntmps22
  go_wp2_with (go_at_call 31; refine (Calls.mono HC.out ?_); rintro e w1 ⟨s2, F, rfl, ho, hf, hnd, hb⟩; rw [← hW] at hf hb; obtain ⟨⟨ao2, l2, c2, rfl⟩, q1, q2, q3⟩ := HE.out s2 F w1 ho hf hb; have x1 : w1.cell? ⟨w.heap.size + 1, 0, none⟩ = some (.slice none 0 0) := blk_cell (i := 0) q1 (by simp); have x2 : w1.cell? ⟨w.heap.size + 2, 0, none⟩ = some (.slice none 0 0) := blk_cell (i := 0) q2 (by simp); have y1 := blk_frozen q1 0; have y2 := blk_frozen q2 0; have HF : Hid _ := q3; have HN : Hid F.Nodup := hnd; clear ho hf hnd hb q1 q2 q3)
  obtain ⟨r1, r2, r3, r4⟩ := HF.out _ rfl
  refine bodyPost_ret_by (results_cell_row rfl _ _ (w.heap.size + 1) 35 _ (0, 0) _ rfl r1 Try.underlying35 rfl (by kernel_rfl)) rfl ?_
  exact ⟨_, F, rfl, r2, r3, HN.out, r4⟩
end Go.Proofs.Ytdcphfcenaafbam
