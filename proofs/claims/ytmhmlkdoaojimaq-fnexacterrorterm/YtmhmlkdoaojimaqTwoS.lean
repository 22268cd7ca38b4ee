/- spec.l03Two. -/
import Derived.Test.YtmhmlkdoaojimaqRows
import Derived.Test.YtmhmlkdoaojimaqBlk4
import Derived.Test.YtmhmlkdoaojimaqTmToA
import Derived.Deep.DeepCutAuto
namespace Go.Proofs.Ytmhmlkdoaojimaq
open Go.RowKit

/-- a row of two terms in a block -/
theorem tms_two {w : World} {b : Nat} {T : TypeId} {H B : Tm} {c0 c1 c2 c3 c4 c5 c6 c7 : Value} (hk : w.heap[b]? = some (.cells #[c0, c1, c2, c3, c4, c5, c6, c7] T (0, 0))) (h1 : TmIn w H (.agg #[c0, c1, c2, c3])) (h2 : TmIn w B (.agg #[c4, c5, c6, c7])) : TmsIn w [H, B] b 0 :=
  ⟨⟨_, _, _, _, blk_cell (i := 0) hk (by simp), blk_cell (i := 1) hk (by simp), blk_cell (i := 2) hk (by simp), blk_cell (i := 3) hk (by simp), h1⟩,
   ⟨_, _, _, _, blk_cell (i := 4) hk (by simp), blk_cell (i := 5) hk (by simp), blk_cell (i := 6) hk (by simp), blk_cell (i := 7) hk (by simp), h2⟩, trivial⟩
set_option maxHeartbeats 2000000 in
theorem s_two (m : ByteArray) (w : World) (k1 s1 n1 a1 l1 c1 k2 s2 n2 a2 l2 c2) :
    Calls Try.prog 20 #[.string m, .agg #[.int .i64 k1, .string s1, .int .i64 n1, .slice a1 l1 c1], .agg #[.int .i64 k2, .string s2, .int .i64 n2, .slice a2 l2 c2]] w fun e w' => ∃ b, e = .returned (.agg #[.int .i64 4, .string m, .int .i64 0, .slice (some ⟨b, 0, none⟩) 2 2]) ∧ w.heap.size ≤ b ∧ w'.heap[b]? = some (.cells #[.int .i64 k1, .string s1, .int .i64 n1, .slice a1 l1 c1, .int .i64 k2, .string s2, .int .i64 n2, .slice a2 l2 c2] 24 (0, 0)) ∧ Below w.heap.size w w' := by
  obtain ⟨W, hW⟩ : ∃ W, W = ((w.alloc (.cells #[.int .i64 k1, .string s1, .int .i64 n1, .slice a1 l1 c1] 24)).alloc (.cells #[.int .i64 k2, .string s2, .int .i64 n2, .slice a2 l2 c2] 24)).alloc (.cells #[.int .i64 0, .string ⟨#[]⟩, .int .i64 0, .slice none 0 0] 24) := ⟨_, rfl⟩
  have bW : Below w.heap.size w W := by rw [hW]; exact (((Below.refl _ _).alloc (Nat.le_refl _) _).alloc (by simp) _).alloc (by simp; omega) _
  have lW : W.heap.size = w.heap.size + 3 := by rw [hW]; simp
  have q1 : W.heap[w.heap.size]? = some (.cells #[.int .i64 k1, .string s1, .int .i64 n1, .slice a1 l1 c1] 24 (0, 0)) := by rw [hW]; exact (alloc_old _ _ (by simp; omega)).trans ((alloc_old _ _ (by simp)).trans (alloc_at _ _ rfl))
  have q2 : W.heap[w.heap.size + 1]? = some (.cells #[.int .i64 k2, .string s2, .int .i64 n2, .slice a2 l2 c2] 24 (0, 0)) := by rw [hW]; exact (alloc_old _ _ (by simp)).trans (alloc_at _ _ (by simp))
  have q3 : W.heap[w.heap.size + 2]? = some (.cells #[.int .i64 0, .string ⟨#[]⟩, .int .i64 0, .slice none 0 0] 24 (0, 0)) := by rw [hW]; exact alloc_at _ _ (by simp)
  have HQ3 : Hid _ := q3
  have HBW : Hid (Below w.heap.size w W) := bW
  have HL : Hid (W.heap.size = w.heap.size + 3) := lW
  clear bW lW
  go_enter Try.func20, Try.ntmps20
  go_upto_region 1 with fail
  rw [← hW]
  clear hW
  obtain ⟨x0, x1, x2, x3, _⟩ := blk4 q1
  obtain ⟨y0, y1, y2, y3, _⟩ := blk4 q2
  obtain ⟨z0, z1, z2, z3, g0, g1, g2, g3⟩ := blk4 q3
  have hpl := (Array.getElem?_eq_some_iff.1 q3).1
  clear q1 q2 q3
  go_wp2
  have hps : w.heap.size ≤ w.heap.size + 2 := by omega
  obtain ⟨p, hp⟩ : ∃ p, p = w.heap.size + 2 := ⟨_, rfl⟩
  rw [← hp] at hpl hps
  have hq3 := HQ3.out
  rw [← hp] at hq3
  refine bodyPost_ret_by (results_cell_row rfl _ _ p 24 _ (0, 0) _ (by rw [hp]; rfl) ((alloc_old _ _ (by simpa [World.setCell] using hpl)).trans (by subst hp; exact blk4_set hq3)) Try.underlying24 rfl (by kernel_rfl)) rfl ?_
  subst hp
  have hend : ∀ d0 d1 d2 d3, Below w.heap.size w (((((W.setCell ⟨w.heap.size + 2, 0, none⟩ d0).setCell ⟨w.heap.size + 2, 1, none⟩ d1).setCell ⟨w.heap.size + 2, 2, none⟩ d2).setCell ⟨w.heap.size + 2, 3, none⟩ d3).alloc (.cells #[.int .i64 k1, .string s1, .int .i64 n1, .slice a1 l1 c1, .int .i64 k2, .string s2, .int .i64 n2, .slice a2 l2 c2] 24)) := fun d0 d1 d2 d3 => (blk4_below HBW.out hps).alloc (by have := HBW.out.size; simp [World.setCell]; omega) _
  have hkb : ∀ d0 d1 d2 d3, (((((W.setCell ⟨w.heap.size + 2, 0, none⟩ d0).setCell ⟨w.heap.size + 2, 1, none⟩ d1).setCell ⟨w.heap.size + 2, 2, none⟩ d2).setCell ⟨w.heap.size + 2, 3, none⟩ d3).alloc (.cells #[.int .i64 k1, .string s1, .int .i64 n1, .slice a1 l1 c1, .int .i64 k2, .string s2, .int .i64 n2, .slice a2 l2 c2] 24)).heap[W.heap.size]? = some (.cells #[.int .i64 k1, .string s1, .int .i64 n1, .slice a1 l1 c1, .int .i64 k2, .string s2, .int .i64 n2, .slice a2 l2 c2] 24 (0, 0)) := fun d0 d1 d2 d3 => alloc_at _ _ (by simp [World.setCell])
  exact ⟨W.heap.size, rfl, HBW.out.size, hkb _ _ _ _, hend _ _ _ _⟩

end Go.Proofs.Ytmhmlkdoaojimaq
