/- FnExactShifted answers true at every term and every int. No condition. -/
import Derived.Test.YtcmnjpoapcoghamMrg1
import Derived.Test.YtcmnjpoapcoghamMrg2
import Derived.Test.YtcmnjpoapcoghamMrg6
import Derived.Test.YtcmnjpoapcoghamShiftJ
import Derived.Test.YtcmnjpoapcoghamTmHeld
import Derived.Test.YtcmnjpoapcoghamMrg5
import Derived.Deep.RegionWith
import Derived.Deep.DeepCutAuto
import Derived.ChangeOld
namespace Go.Proofs.Ytcmnjpoapcogham.fnExactShifted
open Go.ChangeShapes Go.WideShapes Go.ChangeAt Go.RowKit

set_option maxHeartbeats 4000000 in
set_option maxRecDepth 20000 in
theorem walk (t : Tm) (v : Value) (b : Int) (_ : (Lit.int .i64 b).wf = true) (w : World) (hin : TmIn w t v) :
    Calls Try.prog 3 #[v, .int .i64 b] w fun e w' => e = .returned (.bool true) ∧ Below w.heap.size w w' := by
  obtain ⟨k, s, n, ao, len, cap, rfl⟩ := tm_shape hin
  obtain ⟨W, hW⟩ : ∃ W, W = w.alloc (.cells #[.int .i64 k, .string s, .int .i64 n, .slice ao len cap] 24) := ⟨_, rfl⟩
  have bW : Below w.heap.size w W := by rw [hW]; exact (Below.refl _ _).alloc (Nat.le_refl _) _
  have lW : W.heap.size = w.heap.size + 1 := by rw [hW]; simp
  have k1 : W.heap[w.heap.size]? = some (.cells #[.int .i64 k, .string s, .int .i64 n, .slice ao len cap] 24 (0, 0)) := by rw [hW]; exact heap_alloc_new w _
  have HARG : Hid (∀ w', Below W.heap.size W w' → TmIn w' t (.agg #[.int .i64 k, .string s, .int .i64 n, .slice ao len cap]) ∧ w'.cell? ⟨w.heap.size, 0, none⟩ = some (.int .i64 k) ∧ w'.cell? ⟨w.heap.size, 1, none⟩ = some (.string s) ∧ w'.cell? ⟨w.heap.size, 2, none⟩ = some (.int .i64 n) ∧ w'.cell? ⟨w.heap.size, 3, none⟩ = some (.slice ao len cap)) := fun w' hb => by
    obtain ⟨q0, q1, q2, q3, _⟩ := blk4 ((hb.block _ (by omega)).trans k1)
    exact ⟨TmIn.keep hb _ _ (TmIn.keep bW _ _ hin), q0, q1, q2, q3⟩
  have HSZ := sz_term t W _ 1048576 (HARG.out W (Below.refl _ _)).1 (Nat.le_refl _)
  have HBW : Hid (Below w.heap.size w W) := bW
  clear hin k1 bW lW
  by_cases hwt : t.wt ≤ 1048576
  · rw [show szR t.wt 1048576 = ((1048576 - t.wt : Nat) : Int) from if_pos hwt, hW] at HSZ
    replace HSZ : Hid _ := HSZ
    have hl : ¬ ((1048576 - t.wt : Nat) : Int) < 0 := by omega
    have HTW : Hid (t.wt ≤ 1048576) := hwt
    generalize ((1048576 - t.wt : Nat) : Int) = L1 at *
    have hrw : (shiftR t b).wt ≤ 1048576 := by rw [shiftR_wt]; exact hwt
    have HSP0 : ∀ w1 v1, TmIn w1 t v1 → Calls Try.prog 10 #[v1, .int .i64 b] w1 fun e w' => ∃ v' F, e = .returned v' ∧ Own 28 w' (shiftR t b) v' F ∧ (∀ f ∈ F, w1.heap.size ≤ f) ∧ F.Nodup ∧ Below w1.heap.size w1 w' := fun w1 v1 h => spec_shifted t b w1 v1 h hwt
    have HIM0 : ∀ w1 v1 F1, Own 28 w1 t v1 F1 → F1.Nodup → Calls Try.prog 12 #[v1, .int .i64 b] w1 fun e w' => ∃ v' F, e = .returned v' ∧ Own 28 w' (shiftR t b) v' F ∧ (∀ f ∈ F, w1.heap.size ≤ f) ∧ F.Nodup ∧ Below w1.heap.size w1 w' := fun w1 v1 F1 h1 h2 => impl_shifted t w1 v1 F1 b h1 h2 hwt
    obtain ⟨R, hR⟩ : ∃ R, R = shiftR t b := ⟨_, rfl⟩
    rw [← hR] at HSP0 HIM0 hrw
    have HSP : Hid _ := HSP0
    have HIM : Hid _ := HIM0
    have HNS : Hid (ns t.kids ≤ 1048576 ∧ ns R.kids ≤ 1048576) := by
      refine ⟨?_, ?_⟩
      · have h1 := n_le_wt t
        obtain ⟨k9, s9, n9, ks9⟩ := t
        rw [n_mk] at h1
        show ns ks9 ≤ 1048576
        omega
      · have h1 := n_le_wt R
        obtain ⟨k9, s9, n9, ks9⟩ := R
        rw [n_mk] at h1
        show ns ks9 ≤ 1048576
        omega
    clear hwt hR HSP0 HIM0 hrw
    go_enter Try.func3, Try.ntmps3
    go_upto_region 5 with (go_at_call 9; refine (Calls.mono HSZ.out ?_); rintro e w1 ⟨rfl, hb⟩; rw [← hW] at hb; have HB : Hid (Below W.heap.size W w1) := hb; clear hb)
    -- w0
    obtain ⟨g2, c1, c2, c3, c4⟩ := HARG.out w1 HB.out
    have HC1 : Hid _ := to_term t w1 _ g2 HTW.out
    clear g2 hW HSZ
    go_upto_region 6 with (first
      | (go_at_call 11; refine (Calls.mono HC1.out ?_); rintro e w2 ⟨v1, F1, rfl, o1, _, _, hb⟩; obtain ⟨ka, sa, na, aoa, la, ca, rfl⟩ := own_shape o1; have HB2 : Hid (Below W.heap.size W w2) := HB.out.trans (hb.mono HB.out.size); have HC2 : Hid _ := HSP.out w2 _ (Own.toIn _ _ _ o1); clear o1 hb)
      | (go_at_call 10; refine (Calls.mono HC2.out ?_); rintro e w3 ⟨v3, F3, rfl, o3, _, _, hb⟩; obtain ⟨k3, s3, n3, ao3, len3, cap3, rfl⟩ := own_shape o3; have T3 : Hid (TmIn w3 R (.agg #[.int .i64 k3, .string s3, .int .i64 n3, .slice ao3 len3 cap3])) := Own.toIn _ _ _ o3; have HB3 : Hid (Below W.heap.size W w3) := HB2.out.trans (hb.mono HB2.out.size); clear o3 hb))
    clear c1 c2 c3 c4 HC1 HC2
    obtain ⟨W3, hW3⟩ : ∃ W3, W3 = w3.alloc (.cells #[.int .i64 k3, .string s3, .int .i64 n3, .slice ao3 len3 cap3] 28) := ⟨_, rfl⟩
    rw [← hW3]
    have bW3 : Below w3.heap.size w3 W3 := by rw [hW3]; exact (Below.refl _ _).alloc (Nat.le_refl _) _
    have k6 : W3.heap[w3.heap.size]? = some (.cells #[.int .i64 k3, .string s3, .int .i64 n3, .slice ao3 len3 cap3] 28 (0, 0)) := by rw [hW3]; exact heap_alloc_new _ _
    have sW3 : W3.heap.size = w3.heap.size + 1 := by rw [hW3]; simp
    obtain ⟨p6, hp6⟩ : ∃ p6, p6 = w3.heap.size := ⟨_, rfl⟩
    have HBB : Hid (Below W.heap.size W W3) := HB3.out.trans (bW3.mono HB3.out.size)
    have t6 : TmIn W3 R (.agg #[.int .i64 k3, .string s3, .int .i64 n3, .slice ao3 len3 cap3]) := TmIn.keep bW3 _ _ T3.out
    rw [← hp6] at k6 sW3 ⊢
    have H6 : Hid (∀ w', Below W3.heap.size W3 w' → w'.cell? ⟨p6, 0, none⟩ = some (.int .i64 k3) ∧ w'.cell? ⟨p6, 1, none⟩ = some (.string s3) ∧ w'.cell? ⟨p6, 2, none⟩ = some (.int .i64 n3) ∧ w'.cell? ⟨p6, 3, none⟩ = some (.slice ao3 len3 cap3) ∧ TmIn w' R (.agg #[.int .i64 k3, .string s3, .int .i64 n3, .slice ao3 len3 cap3])) := fun w' hb => by
      obtain ⟨q0, q1, q2, q3, _⟩ := blk4 ((hb.block p6 (by omega)).trans k6)
      exact ⟨q0, q1, q2, q3, TmIn.keep hb _ _ t6⟩
    clear hW3 bW3 k6 sW3 hp6 t6 T3 HB3 HB2 HB
    -- x0
    obtain ⟨g2, c1, c2, c3, c4⟩ := HARG.out W3 HBB.out
    have HC7 : Hid _ := to_term t W3 _ g2 HTW.out
    clear g2
    go_upto_region 7 with (go_at_call 11; refine (Calls.mono HC7.out ?_); rintro e w4 ⟨v7, F7, rfl, o7, f7, n7, b7⟩; obtain ⟨k7, s7, m7, ao7, l7, cp7, rfl⟩ := own_shape o7; have O7 : Hid (Own 28 w4 t (.agg #[.int .i64 k7, .string s7, .int .i64 m7, .slice ao7 l7 cp7]) F7) := o7; have N7 : Hid ((∀ f ∈ F7, W3.heap.size ≤ f) ∧ F7.Nodup) := ⟨f7, n7⟩; have B7 : Hid (Below W3.heap.size W3 w4) := b7; clear o7 f7 n7 b7)
    obtain ⟨W4, hW4⟩ : ∃ W4, W4 = w4.alloc (.cells #[.int .i64 k7, .string s7, .int .i64 m7, .slice ao7 l7 cp7] 28) := ⟨_, rfl⟩
    rw [← hW4]
    have bW4 : Below w4.heap.size w4 W4 := by rw [hW4]; exact (Below.refl _ _).alloc (Nat.le_refl _) _
    have k7b : W4.heap[w4.heap.size]? = some (.cells #[.int .i64 k7, .string s7, .int .i64 m7, .slice ao7 l7 cp7] 28 (0, 0)) := by rw [hW4]; exact heap_alloc_new _ _
    have HB4 : Hid (Below W3.heap.size W3 W4) := B7.out.trans (bW4.mono B7.out.size)
    have O7' : Hid (Own 28 W4 t (.agg #[.int .i64 k7, .string s7, .int .i64 m7, .slice ao7 l7 cp7]) F7) := Own.keep _ _ _ O7.out fun f hf => bW4.block f (Own.lt _ _ _ O7.out f hf)
    have L7 : Hid (∀ f ∈ F7, f < w4.heap.size) := Own.lt _ _ _ O7.out
    have sW4 : W4.heap.size = w4.heap.size + 1 := by rw [hW4]; simp
    have hs34 : W3.heap.size ≤ w4.heap.size := B7.out.size
    obtain ⟨p7, hp7⟩ : ∃ p7, p7 = w4.heap.size := ⟨_, rfl⟩
    rw [← hp7] at k7b sW4 L7 hs34 ⊢
    have K7 : Hid (W4.heap[p7]? = some (.cells #[.int .i64 k7, .string s7, .int .i64 m7, .slice ao7 l7 cp7] 28 (0, 0))) := k7b
    clear hW4 bW4 k7b O7 B7 hp7 c1 c2 c3 c4 HC7
    -- g0
    obtain ⟨e0, e1, e2, e3, _⟩ := blk4 K7.out
    have HC9 : Hid _ := HIM.out W4 _ F7 O7'.out N7.out.2
    go_upto_region 8 with (go_at_call 12; refine (Calls.mono HC9.out ?_); rintro e w6 ⟨v9, F9, rfl, o9, f9, n9, b9⟩; obtain ⟨k9, s9, m9, ao9, l9, cp9, rfl⟩ := own_shape o9; have O9 : Hid (Own 28 w6 R (.agg #[.int .i64 k9, .string s9, .int .i64 m9, .slice ao9 l9 cp9]) F9) := o9; have N9 : Hid ((∀ f ∈ F9, W4.heap.size ≤ f) ∧ F9.Nodup) := ⟨f9, n9⟩; have B9 : Hid (Below W4.heap.size W4 w6) := b9; clear o9 f9 n9 b9)
    obtain ⟨W6, hW6⟩ : ∃ W6, W6 = w6.alloc (.cells #[.int .i64 k9, .string s9, .int .i64 m9, .slice ao9 l9 cp9] 28) := ⟨_, rfl⟩
    rw [← hW6]
    have bW6 : Below w6.heap.size w6 W6 := by rw [hW6]; exact (Below.refl _ _).alloc (Nat.le_refl _) _
    have k9b : W6.heap[w6.heap.size]? = some (.cells #[.int .i64 k9, .string s9, .int .i64 m9, .slice ao9 l9 cp9] 28 (0, 0)) := by rw [hW6]; exact heap_alloc_new _ _
    have HB6 : Hid (Below W4.heap.size W4 W6) := B9.out.trans (bW6.mono B9.out.size)
    have O9' : Hid (Own 28 W6 R (.agg #[.int .i64 k9, .string s9, .int .i64 m9, .slice ao9 l9 cp9]) F9) := Own.keep _ _ _ O9.out fun f hf => bW6.block f (Own.lt _ _ _ O9.out f hf)
    have L9 : Hid (∀ f ∈ F9, f < w6.heap.size) := Own.lt _ _ _ O9.out
    have sW6 : W6.heap.size = w6.heap.size + 1 := by rw [hW6]; simp
    have hs46 : W4.heap.size ≤ w6.heap.size := B9.out.size
    obtain ⟨p9, hp9⟩ : ∃ p9, p9 = w6.heap.size := ⟨_, rfl⟩
    rw [← hp9] at k9b sW6 L9 hs46 ⊢
    have K9 : Hid (W6.heap[p9]? = some (.cells #[.int .i64 k9, .string s9, .int .i64 m9, .slice ao9 l9 cp9] 28 (0, 0))) := k9b
    have O7b : Hid (Own 28 W6 t (.agg #[.int .i64 k7, .string s7, .int .i64 m7, .slice ao7 l7 cp7]) F7) := Own.keep _ _ _ O7'.out fun f hf => HB6.out.block f (Own.lt _ _ _ O7'.out f hf)
    have K7b : Hid (W6.heap[p7]? = some (.cells #[.int .i64 k7, .string s7, .int .i64 m7, .slice ao7 l7 cp7] 28 (0, 0))) := (HB6.out.block p7 (by omega)).trans K7.out
    have HB36 : Hid (Below W3.heap.size W3 W6) := HB4.out.trans (HB6.out.mono HB4.out.size)
    clear hW6 bW6 k9b O9 B9 hp9 HC9 e0 e1 e2 e3 O7' K7
    have HALL : Hid (∀ w', Out (F7 ++ F9) W6 w' → Below W3.heap.size W3 w' ∧ (w'.cell? ⟨p7, 0, none⟩ = some (.int .i64 k7) ∧ w'.cell? ⟨p7, 1, none⟩ = some (.string s7) ∧ w'.cell? ⟨p7, 2, none⟩ = some (.int .i64 m7) ∧ w'.cell? ⟨p7, 3, none⟩ = some (.slice ao7 l7 cp7)) ∧ w'.cell? ⟨p9, 0, none⟩ = some (.int .i64 k9) ∧ w'.cell? ⟨p9, 1, none⟩ = some (.string s9) ∧ w'.cell? ⟨p9, 2, none⟩ = some (.int .i64 m9) ∧ w'.cell? ⟨p9, 3, none⟩ = some (.slice ao9 l9 cp9)) := fun w' hu => by
      have h7 : ∀ f ∈ F7, W3.heap.size ≤ f ∧ f < p7 := fun f hf => ⟨N7.out.1 f hf, L7.out f hf⟩
      have h9 : ∀ f ∈ F9, W4.heap.size ≤ f ∧ f < p9 := fun f hf => ⟨N9.out.1 f hf, L9.out f hf⟩
      have hb : Below W3.heap.size W3 w' := HB36.out.trans (hu.below (fun f hf => by
        rcases List.mem_append.1 hf with hf | hf
        · exact (h7 f hf).1
        · have := (h9 f hf).1; omega) HB36.out.size)
      have hn7 : p7 ∉ F7 ++ F9 := fun hf => by
        rcases List.mem_append.1 hf with hf | hf
        · have := (h7 _ hf).2; omega
        · have := (h9 _ hf).1; omega
      have hn9 : p9 ∉ F7 ++ F9 := fun hf => by
        rcases List.mem_append.1 hf with hf | hf
        · have := (h7 _ hf).2; omega
        · have := (h9 _ hf).2; omega
      obtain ⟨a0, a1, a2, a3, _⟩ := blk4 ((hu.block p7 (by omega) hn7).trans K7b.out)
      obtain ⟨b0, b1, b2, b3, _⟩ := blk4 ((hu.block p9 (by omega) hn9).trans K9.out)
      exact ⟨hb, ⟨a0, a1, a2, a3⟩, b0, b1, b2, b3⟩
    have D79 : Hid (∀ f ∈ F9, f ∉ F7) := fun f hf h => by have := N9.out.1 f hf; have := L7.out f h; omega
    clear K7b K9 L7 L9 HB36 HB4 HB6 hs46 hs34 sW4 sW6
    -- g0 is w0
    obtain ⟨a1, _, b0, b1, b2, b3⟩ := HALL.out W6 (Out.refl _ _)
    obtain ⟨x0, x1, x2, x3, x4⟩ := H6.out W6 a1
    have HE : Hid _ := eq_term R W6 _ _ (Own.toIn _ _ _ O9'.out) x4
    clear x4 a1
    go_upto_region 10 with (go_at_call 13; refine (Calls.mono HE.out ?_); rintro e w7 ⟨rfl, b7⟩; have U7 : Hid (Below W6.heap.size W6 w7) := b7; clear b7)
    clear b0 b1 b2 b3 x0 x1 x2 x3 HE
    -- x0 is as it was
    refine wp_region_facts 4 (fun i v _ w' => match i with
      | 0 => v = .agg #[.int .i64 k7, .string s7, .int .i64 m7, .slice ao7 l7 cp7]
      | 1 => v = .agg #[.int .i64 k, .string s, .int .i64 n, .slice ao len cap]
      | 2 => TmIn w' t v
      | _ => v = .bool true) (by kernel_rfl) (by kernel_rfl) 74 rfl (by kernel_rfl) ?_ ?_ ?_
    · intro i v S w w' hi h hb
      match i, hi, h with
      | 0, _, h => exact h
      | 1, _, h => exact h
      | 2, _, h => exact TmIn.keep hb _ _ h
      | 3, _, h => exact h
    · intro i o hi ho a w' hb hfr hdep
      have hb6 : Below W6.heap.size W6 w' := U7.out.trans (hb.mono U7.out.size)
      obtain ⟨hb3, ⟨f0, f1, f2, f3⟩, _⟩ := HALL.out w' (Out.of_below hb6)
      obtain ⟨g2, c1, c2, c3, c4⟩ := HARG.out w' (HBB.out.trans (hb3.mono HBB.out.size))
      have u2 : a.tmps.getD 2 undef = .pointer (some ⟨w.heap.size, 0, none⟩) := hfr 2 (by decide)
      have u7 : a.tmps.getD 7 undef = .pointer (some ⟨p7, 0, none⟩) := hfr 7 (by decide)
      match i, hi with
      | 0, _ =>
        obtain rfl : _ = o := by simpa using ho
        refine fact_value (w' := w') (v := .agg #[.int .i64 k7, .string s7, .int .i64 m7, .slice ao7 l7 cp7]) ?_ (Below.refl _ _) ⟨[], rfl, by simp⟩
        simp only [execOp, Act.eval, u7]
        go_simp
      | 1, _ =>
        obtain rfl : _ = o := by simpa using ho
        refine fact_value (w' := w') (v := .agg #[.int .i64 k, .string s, .int .i64 n, .slice ao len cap]) ?_ (Below.refl _ _) ⟨[], rfl, by simp⟩
        simp only [execOp, Act.eval, u2]
        go_simp
      | 2, _ =>
        obtain rfl : _ = o := by simpa using ho
        obtain ⟨_, h0⟩ : ∃ _ : List Nat, a.tmps.getD 32 undef = .agg #[.int .i64 k, .string s, .int .i64 n, .slice ao len cap] := hdep 1 (by kernel_rfl)
        refine fact_call rfl Try.func11 (by kernel_rfl) (by kernel_rfl) (args := #[.agg #[.int .i64 k, .string s, .int .i64 n, .slice ao len cap]]) ?_ ?_
        · simp [Act.eval, h0]
        · refine Calls.mono (to_term t w' _ g2 HTW.out) ?_
          rintro e w4 ⟨v4, F4, rfl, o4, _, _, hb4⟩
          exact ⟨_, rfl, hb4, [], Own.toIn _ _ _ o4, by simp⟩
      | 3, _ =>
        obtain rfl : _ = o := by simpa using ho
        obtain ⟨_, h0⟩ : ∃ _ : List Nat, a.tmps.getD 31 undef = .agg #[.int .i64 k7, .string s7, .int .i64 m7, .slice ao7 l7 cp7] := hdep 0 (by kernel_rfl)
        obtain ⟨_, h2⟩ : ∃ _ : List Nat, TmIn w' t (a.tmps.getD 33 undef) := hdep 2 (by kernel_rfl)
        refine fact_call rfl Try.func13 (by kernel_rfl) (by kernel_rfl) (args := #[.agg #[.int .i64 k7, .string s7, .int .i64 m7, .slice ao7 l7 cp7], a.tmps.getD 33 undef]) ?_ ?_
        · simp [Act.eval, h0]
        · refine Calls.mono (eq_term t w' _ _ (TmIn.keep hb6 _ _ (Own.toIn _ _ _ O7b.out)) h2) ?_
          rintro e w4 ⟨rfl, hb4⟩
          exact ⟨_, rfl, hb4, [], rfl, by simp⟩
    intro vals S w9 hb hf _
    have h3 : vals 3 = .bool true := (hf 3 (by omega)).1
    have U9 : Hid (Below W6.heap.size W6 w9) := U7.out.trans (hb.mono U7.out.size)
    simp only [putN, List.getElem?_toArray, List.getElem?_cons_zero, List.getElem?_cons_succ, Option.bind_some, List.drop_succ_cons, List.drop_zero, h3]
    generalize vals 0 = v31
    generalize vals 1 = v32
    generalize vals 2 = v33
    clear hf h3 hb U7
    go_upto_region 13 with fail
    -- what is written into x0 is not in g0
    obtain ⟨_, ⟨f0, f1, f2, f3⟩, _⟩ := HALL.out w9 (Out.of_below U9.out)
    have HK := mark_term t w9 _ F7 1 (Own.keep _ _ _ O7b.out fun f hf => U9.out.block f (Own.lt _ _ _ O7b.out f hf)) N7.out.2 (by omega) (by have := HNS.out.1; omega)
    have hn1 : ¬ ((1 + 3 * ns t.kids : Nat) : Int) < 0 := by omega
    generalize 1 + 3 * ns t.kids = nx1 at HK hn1
    replace HK : Hid _ := HK
    go_upto_region 14 with (go_at_call 14; refine (Calls.mono HK.out ?_); rintro e w10 ⟨rfl, _, u⟩; have U10 : Hid (Out F7 w9 w10) := u; clear u)
    clear f0 f1 f2 f3 HK
    have V10 : Hid (Out (F7 ++ F9) W6 w10) := (Out.of_below U9.out).trans (U10.out.mono fun f hf => List.mem_append_left _ hf)
    have O9d : Hid (Own 28 w10 R (.agg #[.int .i64 k9, .string s9, .int .i64 m9, .slice ao9 l9 cp9]) F9) := Own.keep _ _ _ O9'.out fun f hf => by
      have hl := Own.lt _ _ _ O9'.out f hf
      exact (U10.out.block f (Nat.lt_of_lt_of_le hl U9.out.size) (D79.out f hf)).trans (U9.out.block f hl)
    obtain ⟨a1, _, b0, b1, b2, b3⟩ := HALL.out w10 V10.out
    obtain ⟨x0, x1, x2, x3, x4⟩ := H6.out w10 a1
    have HE : Hid _ := eq_term R w10 _ _ (Own.toIn _ _ _ O9d.out) x4
    clear x4 a1
    go_upto_region 17 with (go_at_call 13; refine (Calls.mono HE.out ?_); rintro e w12 ⟨rfl, b12⟩; have U12 : Hid (Below w10.heap.size w10 w12) := b12; clear b12)
    clear b0 b1 b2 b3 x0 x1 x2 x3 HE
    -- g0 owns its memory
    have V12 : Hid (Out (F7 ++ F9) W6 w12) := V10.out.trans (Out.of_below U12.out)
    have O9f : Hid (Own 28 w12 R (.agg #[.int .i64 k9, .string s9, .int .i64 m9, .slice ao9 l9 cp9]) F9) := Own.keep _ _ _ O9d.out fun f hf => U12.out.block f (Own.lt _ _ _ O9d.out f hf)
    obtain ⟨_, _, b0, b1, b2, b3⟩ := HALL.out w12 V12.out
    have HK := mark_term R w12 _ F9 1 O9f.out N9.out.2 (by omega) (by have := HNS.out.2; omega)
    have HHD : Hid (∀ w', TmIn w' (R.markK 1) (.agg #[.int .i64 k9, .string s9, .int .i64 m9, .slice ao9 l9 cp9]) → Calls Try.prog 15 #[.agg #[.int .i64 k9, .string s9, .int .i64 m9, .slice ao9 l9 cp9], .int .i64 ((1 : Nat) : Int)] w' fun e w2 => e = .returned (.int .i64 ((1 + 3 * ns R.kids : Nat) : Int)) ∧ Below w'.heap.size w' w2) := fun w' h => held_term R w' _ 1 h (by omega) (by have := HNS.out.2; omega)
    have hn3 : ¬ ((1 + 3 * ns R.kids : Nat) : Int) < 0 := by omega
    generalize 1 + 3 * ns R.kids = nx3 at HK HHD hn3
    replace HK : Hid _ := HK
    go_upto_region 19 with (go_at_call 14; refine (Calls.mono HK.out ?_); rintro e w13 ⟨rfl, o13, u⟩; have U13 : Hid (Out F9 w12 w13) := u; have T13 : Hid (TmIn w13 (R.markK 1) (.agg #[.int .i64 k9, .string s9, .int .i64 m9, .slice ao9 l9 cp9])) := Own.toIn _ _ _ o13; clear u o13)
    clear b0 b1 b2 b3 HK O9d O9f
    have V13 : Hid (Out (F7 ++ F9) W6 w13) := V12.out.trans (U13.out.mono fun f hf => List.mem_append_right _ hf)
    obtain ⟨_, _, b0, b1, b2, b3⟩ := HALL.out w13 V13.out
    have HK : Hid _ := HHD.out w13 T13.out
    go_upto_region 24 with (go_at_call 15; refine (Calls.mono HK.out ?_); rintro e w14 ⟨rfl, b14⟩; have U14 : Hid (Below w13.heap.size w13 w14) := b14; clear b14)
    clear b0 b1 b2 b3 HK
    have V14 : Hid (Out (F7 ++ F9) W6 w14) := V13.out.trans (Out.of_below U14.out)
    have B314 : Hid (Below W3.heap.size W3 w14) := (HALL.out w14 V14.out).1
    -- once more
    obtain ⟨g2, c1, c2, c3, c4⟩ := HARG.out w14 (HBB.out.trans (B314.out.mono HBB.out.size))
    have HC1 : Hid _ := to_term t w14 _ g2 HTW.out
    clear g2
    go_upto_region 25 with (first
      | (go_at_call 11; refine (Calls.mono HC1.out ?_); rintro e w15 ⟨v1, F1, rfl, o1, _, n1, hb⟩; obtain ⟨ka, sa, na, aoa, la, ca, rfl⟩ := own_shape o1; have B15 : Hid (Below w14.heap.size w14 w15) := hb; have HC2 : Hid _ := HIM.out w15 _ _ o1 n1; clear o1 hb n1)
      | (go_at_call 12; refine (Calls.mono HC2.out ?_); rintro e w16 ⟨v3, F3, rfl, o3, _, _, hb⟩; obtain ⟨kh, sh, nh, aoh, lenh, caph, rfl⟩ := own_shape o3; have T16 : Hid (TmIn w16 R (.agg #[.int .i64 kh, .string sh, .int .i64 nh, .slice aoh lenh caph])) := Own.toIn _ _ _ o3; have B16 : Hid (Below w14.heap.size w14 w16) := B15.out.trans (hb.mono B15.out.size); clear o3 hb))
    clear c1 c2 c3 c4 HC1 HC2
    obtain ⟨W16, hW16⟩ : ∃ W16, W16 = w16.alloc (.cells #[.int .i64 kh, .string sh, .int .i64 nh, .slice aoh lenh caph] 28) := ⟨_, rfl⟩
    rw [← hW16]
    have bW16 : Below w16.heap.size w16 W16 := by rw [hW16]; exact (Below.refl _ _).alloc (Nat.le_refl _) _
    have k16 : W16.heap[w16.heap.size]? = some (.cells #[.int .i64 kh, .string sh, .int .i64 nh, .slice aoh lenh caph] 28 (0, 0)) := by rw [hW16]; exact heap_alloc_new _ _
    have t16 : TmIn W16 R (.agg #[.int .i64 kh, .string sh, .int .i64 nh, .slice aoh lenh caph]) := TmIn.keep bW16 _ _ T16.out
    have B17 : Hid (Below w14.heap.size w14 W16) := B16.out.trans (bW16.mono B16.out.size)
    have V16 : Hid (Out (F7 ++ F9) W6 W16) := V14.out.trans (Out.of_below B17.out)
    have B13 : Hid (Below w13.heap.size w13 W16) := U14.out.trans (B17.out.mono U14.out.size)
    obtain ⟨y0, y1, y2, y3, _⟩ := blk4 k16
    obtain ⟨a1, _⟩ := HALL.out W16 V16.out
    obtain ⟨x0, x1, x2, x3, x4⟩ := H6.out W16 a1
    have HE : Hid _ := eq_term R W16 _ _ t16 x4
    clear x4 a1 t16 hW16 bW16 k16 T16 B15 B16
    go_upto_region 28 with (go_at_call 13; refine (Calls.mono HE.out ?_); rintro e w17 ⟨rfl, b17⟩; have U17 : Hid (Below W16.heap.size W16 w17) := b17; clear b17)
    clear y0 y1 y2 y3 x0 x1 x2 x3 HE
    have V17 : Hid (Out (F7 ++ F9) W6 w17) := V16.out.trans (Out.of_below U17.out)
    have B18 : Hid (Below w13.heap.size w13 w17) := B13.out.trans (U17.out.mono B13.out.size)
    obtain ⟨_, _, b0, b1, b2, b3⟩ := HALL.out w17 V17.out
    have HK : Hid _ := HHD.out w17 (TmIn.keep B18.out _ _ T13.out)
    go_wp2_with (go_at_call 15; refine (Calls.mono HK.out ?_); rintro e w18 ⟨rfl, b18⟩; have U18 : Hid (Below w17.heap.size w17 w18) := b18; clear b18)
    have V18 : Hid (Out (F7 ++ F9) W6 w18) := V17.out.trans (Out.of_below U18.out)
    go_ret
    refine ⟨rfl, ?_⟩
    have h1 := (HALL.out w18 V18.out).1
    have h2 := HBB.out.trans (h1.mono HBB.out.size)
    exact HBW.out.trans (h2.mono HBW.out.size)
  · rw [show szR t.wt 1048576 = -1 from if_neg hwt, hW] at HSZ
    replace HSZ : Hid _ := HSZ
    go_enter Try.func3, Try.ntmps3
    go_wp2_with (go_at_call 9; refine (Calls.mono HSZ.out ?_); rintro e w1 ⟨rfl, hb⟩; rw [← hW] at hb; have HB : Hid (Below w.heap.size w w1) := HBW.out.trans (hb.mono HBW.out.size); clear hb)
    go_ret
    exact ⟨rfl, HB.out⟩


theorem own : ownKnob Try.prog.godebug = none := by kernel_rfl
set_option maxRecDepth 100000 in
theorem lifted (os : Os) (started : os.Started) (H : Type) (enc : TypeId × Value → H) :
    ReturnsInHanded {} Try.checked os 3 .any (Rows.fnExactShiftedSpec.pre6 enc Try.prog Try.f3 Rows.fnExactShiftedRow.domain false) (Rows.fnExactShiftedSpec.post enc Try.prog Try.f3 false true false false) := by
  refine returnsInHanded_of_change (C := Try.checked) own started (by kernel_rfl) Try.func3
    (ChangeSpec.witness6 (enc := enc) (C := Try.checked) false ⟨#[], #[.agg #[.int .i64 0, .string .empty, .int .i64 0, .slice none 0 0], .int .i64 0], []⟩ 8 (by kernel_rfl) (by kernel_rfl) (by kernel_rfl) (by kernel_rfl)) ?_
  intro W base args ds gs before hval0 hW hcnd _
  have hval : ∀ (j : Nat) t v, Try.f3.params[j]? = some t → args[j]? = some v → Value.okWide Try.prog W .any base t v := hval0
  have hW' := hW
  have hlt := hW.lt
  obtain ⟨p, q, hA0, hV, rfl, hfz, hnd⟩ := hW
  have hA : DataW.TrodAll enc Try.prog W 0 (fun _ => true) true Try.f3.params.toList args.toList ds p := hA0
  rw [Try.params3] at hA hval
  obtain ⟨v0, vs0, d0, ds0, p0, q0, hargs, rfl, rfl, h0, r0⟩ := trodAll_cons hA
  obtain ⟨v1, vs1, d1, ds1, p1, q1, rfl, rfl, rfl, h1, r1⟩ := trodAll_cons r0
  obtain ⟨rfl, rfl, rfl⟩ := trodAll_nil r1
  obtain rfl : args = #[v0, v1] := by cases args; simp_all
  obtain ⟨rfl, rfl⟩ := trodVars_none hV
  obtain ⟨t0, hin0⟩ := tm_split (hval 0 24 v0 rfl rfl) h0
  obtain ⟨a1, rfl, rfl, rfl, w1⟩ := open_int Try.underlying3 (hval 1 3 v1 rfl rfl) h1
  clear hA0 hval0
  refine (walk t0 v0 a1 w1 W hin0).mono fun e W' ⟨he, bel⟩ => ?_
  subst he
  exact ⟨_, rfl, _, _, _, [], _, [], hW', trodAll_mk1 (shut_bool Try.underlying4 _), (trodAll_cons_mk (Below.trod laidOutT readsTm rowTm h0 bel (fun x hx => hlt x (by simp [hx]))) (trodAll_cons_mk (shut_int Try.underlying3 w1) trodAll_mk0)), rfl, bel.frame _, fun h => by cases h⟩

theorem over : Rows.fnExactShiftedRow.holds Try.pinned (OpenSpec.ofChange Rows.fnExactShiftedSpec) :=
  OpenClaim.holds_of_wide 3 Try.f3 rfl rfl rfl rfl rfl rfl rfl ⟨rfl, rfl, rfl, rfl, rfl⟩ rfl rfl rfl rfl rfl (by kernel_rfl) Try.func3 (by kernel_rfl)
    (of_decide_eq_true (by kernel_rfl)) (by unfold Func.isWrapper; first | (rw [if_pos (by decide +kernel)]; kernel_rfl) | (rw [if_neg (by decide +kernel)]; exact ⟨rfl, rfl⟩))
    (fun os started H enc _ => lifted os started H enc)

theorem proved : Rows.FnExactShiftedSaid := over
#print axioms proved
end Go.Proofs.Ytcmnjpoapcogham.fnExactShifted
