/- spec.Walked: what it stands for, copied. -/
import Derived.Test.YtdcphfcenaafbamWalkS
import Derived.Test.YtdcphfcenaafbamL34
import Derived.Test.YtdcphfcenaafbamBindL
namespace Go.Proofs.Ytdcphfcenaafbam
open Go.RowKit

theorem res4 {w w1 : World} {g : Nat} {c0 c1 c2 c3 d0 d1 d2 d3 : Value} {T : TypeId} (hb : Below w.heap.size w w1) (hg : g < w.heap.size) (h : w.heap[g]? = some (.cells #[c0, c1, c2, c3] T (0, 0))) :
    ((((w1.setCell ⟨g, 0, none⟩ d0).setCell ⟨g, 1, none⟩ d1).setCell ⟨g, 2, none⟩ d2).setCell ⟨g, 3, none⟩ d3).heap[g]? = some (.cells #[d0, d1, d2, d3] T (0, 0)) :=
  blk4_set ((hb.block g hg).trans h)

set_option maxRecDepth 20000 in
theorem walked_raw (ks : List Tm) (t : Tm) (w : World) (sl v : Value) (hsl : SlIn w ks sl) (ht : TmIn w t v) :
    Calls Try.prog 40 #[.agg #[sl], v] w fun e w' => ∃ v', e = .returned v' ∧ TmIn w (walkT ks 5000 t) v' ∧ Below w.heap.size w w' := by
  obtain ⟨s, ao, len, cap, rfl⟩ := tmIn_shape ht
  obtain ⟨W, hW⟩ : ∃ W, W = ((w.alloc (.cells #[sl] 35)).alloc (.cells #[.int .i64 t.kind, .string s, .int .i64 t.num, .slice ao len cap] 28)).alloc (.cells #[.int .i64 0, .string ⟨#[]⟩, .int .i64 0, .slice none 0 0] 28) := ⟨_, rfl⟩
  have bW : Below w.heap.size w W := by rw [hW]; exact (((Below.refl _ _).alloc (Nat.le_refl _) _).alloc (by simp) _).alloc (by simp; omega) _
  have k2 : W.heap[w.heap.size + 2]? = some (.cells #[.int .i64 0, .string ⟨#[]⟩, .int .i64 0, .slice none 0 0] 28 (0, 0)) := by rw [hW]; exact alloc_at _ _ (by simp)
  have lW : W.heap.size = w.heap.size + 3 := by rw [hW]; simp
  have HC := walk_spec ks t w W bW sl _ hsl ht
  obtain ⟨q1, q2, rfl, _⟩ := hsl
  rw [hW] at HC
  replace HC : Hid _ := HC
  generalize hr : walkT ks 5000 t = R at *
  clear hr ht
  have HK : Hid (∀ w1 v1, TmIn w R v1 → Below W.heap.size W w1 → ∃ s1 ao1 len1 cap1, v1 = .agg #[.int .i64 R.kind, .string s1, .int .i64 R.num, .slice ao1 len1 cap1] ∧ w1.heap[w.heap.size + 2]? = some (.cells #[.int .i64 0, .string ⟨#[]⟩, .int .i64 0, .slice none 0 0] 28 (0, 0))) := fun w1 v1 h1 hb => by
    obtain ⟨a, b, c, d, e⟩ := tmIn_shape h1
    exact ⟨a, b, c, d, e, (hb.block _ (by omega)).trans k2⟩
  have HBW : Hid (Below w.heap.size w W) := bW
  clear k2 bW
  go_enter Try.func40, Try.ntmps40
  go_wp2_with (go_at_call 60; refine (Calls.mono HC.out ?_); rintro e w1 ⟨v1, rfl, ht1, hb1⟩; rw [← hW] at hb1; obtain ⟨s1, ao1, len1, cap1, rfl, hz⟩ := HK.out w1 v1 ht1 hb1; obtain ⟨y0, y1, y2, y3, z0, z1, z2, z3⟩ := blk4 hz; have HT1 : Hid (TmIn w R (.agg #[.int .i64 R.kind, .string s1, .int .i64 R.num, .slice ao1 len1 cap1])) := ht1; have HB1 : Hid (Below W.heap.size W w1) := hb1; have HZ : Hid (w1.heap[w.heap.size + 2]? = some (.cells #[.int .i64 0, .string ⟨#[]⟩, .int .i64 0, .slice none 0 0] 28 (0, 0))) := hz; clear ht1 hb1 hz)
  refine bodyPost_ret_by (results_cell_row rfl _ _ (w.heap.size + 2) 28 _ (0, 0) _ rfl (blk4_set HZ.out) Try.underlying28 rfl (by kernel_rfl)) rfl ?_
  have hb : Below w.heap.size w w1 := HBW.out.trans (HB1.out.mono HBW.out.size)
  exact ⟨_, rfl, HT1.out, blk4_below hb (by omega)⟩

set_option maxRecDepth 20000 in
theorem spec_walked (ks : List Tm) (t : Tm) (w : World) (sl v : Value) (hsl : SlIn w ks sl) (ht : TmIn w t v) (hwt : (walkT ks 5000 t).wt ≤ 1048576) :
    Calls Try.prog 21 #[.agg #[sl], v] w fun e w' => ∃ v' F, e = .returned v' ∧ Own 28 w' (walkT ks 5000 t) v' F ∧ (∀ f ∈ F, w.heap.size ≤ f) ∧ F.Nodup ∧ Below w.heap.size w w' := by
  obtain ⟨s, ao, len, cap, rfl⟩ := tmIn_shape ht
  obtain ⟨W, hW⟩ : ∃ W, W = ((w.alloc (.cells #[sl] 35)).alloc (.cells #[.int .i64 t.kind, .string s, .int .i64 t.num, .slice ao len cap] 28)).alloc (.cells #[.int .i64 0, .string ⟨#[]⟩, .int .i64 0, .slice none 0 0] 28) := ⟨_, rfl⟩
  have bW : Below w.heap.size w W := by rw [hW]; exact (((Below.refl _ _).alloc (Nat.le_refl _) _).alloc (by simp) _).alloc (by simp; omega) _
  have k2 : W.heap[w.heap.size + 2]? = some (.cells #[.int .i64 0, .string ⟨#[]⟩, .int .i64 0, .slice none 0 0] 28 (0, 0)) := by rw [hW]; exact alloc_at _ _ (by simp)
  have lW : W.heap.size = w.heap.size + 3 := by rw [hW]; simp
  have HC := walked_raw ks t W sl _ (hsl.keep bW) (TmIn.keep bW _ _ ht)
  obtain ⟨q1, q2, rfl, _⟩ := hsl
  rw [hW] at HC
  replace HC : Hid _ := HC
  generalize hr : walkT ks 5000 t = R at *
  clear hr ht
  have HK2 : Hid (∀ w1, Below W.heap.size W w1 → w1.heap[w.heap.size + 2]? = some (.cells #[.int .i64 0, .string ⟨#[]⟩, .int .i64 0, .slice none 0 0] 28 (0, 0))) := fun w1 hb => (hb.block _ (by omega)).trans k2
  have HBW : Hid (Below w.heap.size w W) := bW
  have HR : Hid (∀ w1 v1, Below W.heap.size W w1 → TmIn W R v1 → TmIn w1 R v1 ∧ ∃ s1 ao1 len1 cap1, v1 = .agg #[.int .i64 R.kind, .string s1, .int .i64 R.num, .slice ao1 len1 cap1]) := fun w1 v1 hb h1 => ⟨TmIn.keep hb _ _ h1, tmIn_shape h1⟩
  clear k2 bW
  go_enter Try.func21, Try.ntmps21
  go_wp2_with (go_at_call 40; refine (Calls.mono HC.out ?_); rintro e w1 ⟨v1, rfl, ht1, hb1⟩; rw [← hW] at ht1 hb1; obtain ⟨ht2, s1, ao1, len1, cap1, rfl⟩ := HR.out w1 v1 hb1 ht1; have HT1 : Hid (TmIn w1 R (.agg #[.int .i64 R.kind, .string s1, .int .i64 R.num, .slice ao1 len1 cap1])) := ht2; have HB1 : Hid (Below W.heap.size W w1) := hb1; clear ht1 hb1 ht2)
  obtain ⟨V, hV⟩ : ∃ V, V = w1.alloc (.cells #[.int .i64 R.kind, .string s1, .int .i64 R.num, .slice ao1 len1 cap1] 28) := ⟨_, rfl⟩
  have bV : Below w1.heap.size w1 V := by rw [hV]; exact (Below.refl _ _).alloc (Nat.le_refl _) _
  have HB2 : Hid (Below W.heap.size W V) := HB1.out.trans (bV.mono HB1.out.size)
  have HC2 : Hid _ := l34_term R V _ (TmIn.keep bV _ _ HT1.out) hwt
  rw [← hV]
  have HBV : Hid (w1.heap.size ≤ V.heap.size) := bV.size
  have hsz1 := HB1.out.size
  clear hV bV
  go_wp2_with (go_at_call 30; refine (Calls.mono HC2.out ?_); rintro e w2 ⟨v2, F, rfl, hown, hfr, hnd, hb2⟩; obtain ⟨k3, s3, n3, ao3, len3, cap3, rfl⟩ := own_shape hown; have HB3 : Hid (Below W.heap.size W w2) := HB2.out.trans (hb2.mono HB2.out.size); have HZ : Hid (w2.heap[w.heap.size + 2]? = some (.cells #[.int .i64 0, .string ⟨#[]⟩, .int .i64 0, .slice none 0 0] 28 (0, 0))) := HK2.out w2 HB3.out; obtain ⟨y0, y1, y2, y3, z0, z1, z2, z3⟩ := blk4 HZ.out; have HO : Hid (Own 28 w2 R (.agg #[.int .i64 k3, .string s3, .int .i64 n3, .slice ao3 len3 cap3]) F) := hown; have HF : Hid (∀ f ∈ F, V.heap.size ≤ f) := hfr; have HND : Hid (F.Nodup) := hnd; clear hown hfr hnd hb2)
  refine bodyPost_ret_by (results_cell_row rfl _ _ (w.heap.size + 2) 28 _ (0, 0) _ rfl (blk4_set HZ.out) Try.underlying28 rfl (by kernel_rfl)) rfl ?_
  have hb : Below w.heap.size w w2 := HBW.out.trans (HB3.out.mono HBW.out.size)
  have hv := HB2.out.size
  refine ⟨_, F, rfl, Own.keep _ _ _ HO.out fun f hf => blk4_other ?_, fun f hf => ?_, HND.out, blk4_below hb (by omega)⟩
  · have := HF.out f hf; omega
  · have := HF.out f hf; omega
end Go.Proofs.Ytdcphfcenaafbam
