/- FnExactWalked answers true at every list and term. No condition. -/
import Derived.Test.YtdcphfcenaafbamBindRow
import Derived.Test.YtdcphfcenaafbamBindA
import Derived.Test.YtdcphfcenaafbamWalkSS
import Derived.Test.YtdcphfcenaafbamWalkI
import Derived.Test.YtdcphfcenaafbamTmHeld
import Derived.Test.YtdcphfcenaafbamRegFact
import Derived.Deep.RegionWith
import Derived.Deep.DeepCutAuto
import Derived.ChangeOld
namespace Go.Proofs.Ytdcphfcenaafbam.fnExactWalked
open Go.ChangeShapes Go.WideShapes Go.ChangeAt Go.RowKit

/-- a variable that holds a term -/
def TmAt (w : World) (p : Nat) (t : Tm) : Prop := ∃ k s n ao l cap, w.heap[p]? = some (.cells #[.int .i64 k, .string s, .int .i64 n, .slice ao l cap] 28 (0, 0)) ∧ TmIn w t (.agg #[.int .i64 k, .string s, .int .i64 n, .slice ao l cap])

set_option maxHeartbeats 4000000 in
set_option maxRecDepth 20000 in
theorem walk (ks : List Tm) (t : Tm) (sl v : Value) (w : World) (hsl : SlIn w ks sl) (hin : TmIn w t v) :
    Calls Try.prog 5 #[.agg #[sl], v] w fun e w' => e = .returned (.bool true) ∧ Below w.heap.size w w' := by
  obtain ⟨k, s, n, ao, len, cap, rfl⟩ := tm_shape hin
  obtain ⟨q1, q2, rfl, _⟩ := id hsl
  obtain ⟨W, hW⟩ : ∃ W, W = (w.alloc (.cells #[.slice q1 ks.length q2] 41)).alloc (.cells #[.int .i64 k, .string s, .int .i64 n, .slice ao len cap] 24) := ⟨_, rfl⟩
  have bW : Below w.heap.size w W := by rw [hW]; exact ((Below.refl _ _).alloc (Nat.le_refl _) _).alloc (by simp) _
  have lW : W.heap.size = w.heap.size + 2 := by rw [hW]; simp
  have k0 : W.heap[w.heap.size]? = some (.cells #[.slice q1 ks.length q2] 41 (0, 0)) := by rw [hW]; exact (alloc_old _ _ (by simp)).trans (heap_alloc_new w _)
  have k1 : W.heap[w.heap.size + 1]? = some (.cells #[.int .i64 k, .string s, .int .i64 n, .slice ao len cap] 24 (0, 0)) := by rw [hW]; exact alloc_at _ _ (by simp)
  have HARG : Hid (∀ w', Below W.heap.size W w' → SlIn w' ks (.slice q1 ks.length q2) ∧ TmIn w' t (.agg #[.int .i64 k, .string s, .int .i64 n, .slice ao len cap]) ∧ w'.cell? ⟨w.heap.size, 0, none⟩ = some (.slice q1 ks.length q2) ∧ w'.cell? ⟨w.heap.size + 1, 0, none⟩ = some (.int .i64 k) ∧ w'.cell? ⟨w.heap.size + 1, 1, none⟩ = some (.string s) ∧ w'.cell? ⟨w.heap.size + 1, 2, none⟩ = some (.int .i64 n) ∧ w'.cell? ⟨w.heap.size + 1, 3, none⟩ = some (.slice ao len cap)) := fun w' hb => by
    have h0 := (hb.block _ (by omega)).trans k0
    have h1 := (hb.block _ (by omega)).trans k1
    exact ⟨(hsl.keep bW).keep hb, TmIn.keep hb _ _ (TmIn.keep bW _ _ hin), blk_cell (i := 0) h0 (by simp), blk_cell (i := 0) h1 (by simp), blk_cell (i := 1) h1 (by simp), blk_cell (i := 2) h1 (by simp), blk_cell (i := 3) h1 (by simp)⟩
  have HSZ := sz_binds ks W _ 1048576 (HARG.out W (Below.refl _ _)).1 (Nat.le_refl _)
  have HBW : Hid (Below w.heap.size w W) := bW
  clear hsl hin k0 k1 bW
  by_cases hkw : ks.length + wts ks ≤ 1048576
  · rw [show szR (ks.length + wts ks) 1048576 = ((1048576 - (ks.length + wts ks) : Nat) : Int) from if_pos hkw, hW] at HSZ
    replace HSZ : Hid _ := HSZ
    have HST : Hid (∀ w', Below W.heap.size W w' → Calls Try.prog 8 #[.agg #[.int .i64 k, .string s, .int .i64 n, .slice ao len cap], .int .i64 ((1048576 - (ks.length + wts ks) : Nat) : Int)] w' fun e w2 => e = .returned (.int .i64 (szR t.wt (1048576 - (ks.length + wts ks)))) ∧ Below w'.heap.size w' w2) := fun w' hb => sz_term t w' _ _ (HARG.out w' hb).2.1 (by omega)
    have hl0 : ¬ ((1048576 - (ks.length + wts ks) : Nat) : Int) < 0 := by omega
    by_cases htw : t.wt ≤ 1048576 - (ks.length + wts ks)
    · rw [show szR t.wt (1048576 - (ks.length + wts ks)) = ((1048576 - (ks.length + wts ks) - t.wt : Nat) : Int) from if_pos htw] at HST
      have hl1 : ¬ ((1048576 - (ks.length + wts ks) - t.wt : Nat) : Int) < 0 := by omega
      have HKW : Hid (ks.length + wts ks ≤ 1048576) := hkw
      have HTW : Hid (t.wt ≤ 1048576) := by show t.wt ≤ 1048576; omega
      clear htw hkw
      generalize ((1048576 - (ks.length + wts ks) - t.wt : Nat) : Int) = L2 at *
      generalize ((1048576 - (ks.length + wts ks) : Nat) : Int) = L1 at *
      go_enter Try.func5, Try.ntmps5
      go_upto_region 8 with (first
        | (go_at_call 20; refine (Calls.mono HSZ.out ?_); rintro e w1 ⟨rfl, hb⟩; rw [← hW] at hb; have HB : Hid (Below W.heap.size W w1) := hb; obtain ⟨_, _, c0, c1, c2, c3, c4⟩ := HARG.out w1 hb; clear hb)
        | (go_at_call 8; refine (Calls.mono (HST.out _ HB.out) ?_); rintro e w2 ⟨rfl, hb⟩; have HB2 : Hid (Below W.heap.size W w2) := HB.out.trans (hb.mono HB.out.size); clear hb))
      have HRW : Hid ((walkT ks 5000 t).wt ≤ 1048576) := by
        show (walkT ks 5000 t).wt ≤ 1048576
        rcases walkT_mem ks 5000 t with h | h
        · rw [h]; exact HTW.out
        · have := wt_le h; have := HKW.out; omega
      refine wp_region_facts 6 (fun i v S w' => match i with
        | 0 => v = .agg #[.slice q1 ks.length q2]
        | 1 => ∃ s2, v = .agg #[s2] ∧ SlIn w' ks s2
        | 2 => v = .agg #[.int .i64 k, .string s, .int .i64 n, .slice ao len cap]
        | 3 => TmIn w' t v
        | 4 => Own 28 w' (walkT ks 5000 t) v S
        | _ => ∃ p, v = .pointer (some ⟨p, 0, none⟩) ∧ S = [p] ∧ w'.heap[p]? = some (.cells #[.int .i64 0, .string ⟨#[]⟩, .int .i64 0, .slice none 0 0] 28 (0, 0))) (by kernel_rfl) (by kernel_rfl) 92 rfl (by kernel_rfl) ?_ ?_ ?_
      · intro i v S w w' hi h hb
        match i, hi, h with
        | 0, _, h => exact h
        | 1, _, ⟨s2, h1, h2⟩ => exact ⟨s2, h1, h2.keep hb⟩
        | 2, _, h => exact h
        | 3, _, h => exact TmIn.keep hb _ _ h
        | 4, _, h => exact Own.keep _ _ _ h fun f hf => hb.block f (Own.lt _ _ _ h f hf)
        | 5, _, ⟨p, h1, h2, h3⟩ => exact ⟨p, h1, h2, (hb.block p (Array.getElem?_eq_some_iff.1 h3).1).trans h3⟩
      · intro i o hi ho a w' hb hfr hdep
        have hbw : Below W.heap.size W w' := HB2.out.trans (hb.mono HB2.out.size)
        obtain ⟨g1, g2, c0, c1, c2, c3, c4⟩ := HARG.out w' hbw
        have s2 : a.tmps.getD 2 undef = .pointer (some ⟨w.heap.size, 0, none⟩) := hfr 2 (by decide)
        have s3 : a.tmps.getD 3 undef = .pointer (some ⟨w.heap.size + 1, 0, none⟩) := hfr 3 (by decide)
        match i, hi with
        | 0, _ => 
          obtain rfl : _ = o := by simpa using ho
          refine fact_value (w' := w') (v := .agg #[.slice q1 ks.length q2]) ?_ (Below.refl _ _) ⟨[], rfl, by simp⟩
          simp only [execOp, Act.eval, s2]
          go_simp
        | 1, _ => 
          obtain rfl : _ = o := by simpa using ho
          obtain ⟨_, h0⟩ : ∃ _ : List Nat, a.tmps.getD 24 undef = .agg #[.slice q1 ks.length q2] := hdep 0 (by kernel_rfl)
          refine fact_call rfl Try.func22 (by kernel_rfl) (by kernel_rfl) (args := #[.agg #[.slice q1 ks.length q2]]) ?_ ?_
          · simp [Act.eval, h0]
          · refine Calls.mono (to_binds ks w' _ g1 HKW.out) ?_
            rintro e w4 ⟨s4, F4, rfl, o4, _, _, hb4⟩
            exact ⟨_, rfl, hb4, [], ⟨_, rfl, OwnS.toIn o4⟩, by simp⟩
        | 2, _ => 
          obtain rfl : _ = o := by simpa using ho
          refine fact_value (w' := w') (v := .agg #[.int .i64 k, .string s, .int .i64 n, .slice ao len cap]) ?_ (Below.refl _ _) ⟨[], rfl, by simp⟩
          simp only [execOp, Act.eval, s3]
          go_simp
        | 3, _ => 
          obtain rfl : _ = o := by simpa using ho
          obtain ⟨_, h0⟩ : ∃ _ : List Nat, a.tmps.getD 26 undef = .agg #[.int .i64 k, .string s, .int .i64 n, .slice ao len cap] := hdep 2 (by kernel_rfl)
          refine fact_call rfl Try.func10 (by kernel_rfl) (by kernel_rfl) (args := #[.agg #[.int .i64 k, .string s, .int .i64 n, .slice ao len cap]]) ?_ ?_
          · simp [Act.eval, h0]
          · refine Calls.mono (to_term t w' _ g2 HTW.out) ?_
            rintro e w4 ⟨v4, F4, rfl, o4, _, _, hb4⟩
            exact ⟨_, rfl, hb4, [], Own.toIn _ _ _ o4, by simp⟩
        | 4, _ => 
          obtain rfl : _ = o := by simpa using ho
          obtain ⟨_, s4, h0, h1⟩ : ∃ _ : List Nat, ∃ s2, a.tmps.getD 25 undef = .agg #[s2] ∧ SlIn w' ks s2 := hdep 1 (by kernel_rfl)
          obtain ⟨_, h2⟩ : ∃ _ : List Nat, TmIn w' t (a.tmps.getD 27 undef) := hdep 3 (by kernel_rfl)
          refine fact_call rfl Try.func21 (by kernel_rfl) (by kernel_rfl) (args := #[.agg #[s4], a.tmps.getD 27 undef]) ?_ ?_
          · simp [Act.eval, h0]
          · refine Calls.mono (spec_walked ks t w' s4 _ h1 h2 HRW.out) ?_
            rintro e w4 ⟨v4, F4, rfl, o4, f4, _, hb4⟩
            exact ⟨_, rfl, hb4, F4, o4, fun f hf => ⟨f4 f hf, Own.lt _ _ _ o4 f hf⟩⟩
        | 5, _ => 
          obtain rfl : _ = o := by simpa using ho
          refine fact_value (w' := w'.alloc (.cells #[.int .i64 0, .string ⟨#[]⟩, .int .i64 0, .slice none 0 0] 28)) (v := .pointer (some ⟨w'.heap.size, 0, none⟩)) ?_ ((Below.refl _ _).alloc (Nat.le_refl _) _) ⟨[w'.heap.size], ⟨_, rfl, rfl, heap_alloc_new _ _⟩, by simp⟩
          simp only [execOp]
          go_simp
      · intro vals S w' hb hf hap
        have ho : Own 28 w' (walkT ks 5000 t) (vals 4) (S 4) := (hf 4 (by omega)).1
        obtain ⟨p, hp, hSp, hz⟩ : ∃ p, vals 5 = .pointer (some ⟨p, 0, none⟩) ∧ S 5 = [p] ∧ w'.heap[p]? = some (.cells #[.int .i64 0, .string ⟨#[]⟩, .int .i64 0, .slice none 0 0] 28 (0, 0)) := (hf 5 (by omega)).1
        have hpl : w2.heap.size ≤ p := ((hf 5 (by omega)).2 p (by rw [hSp]; simp)).1
        have hpF : ∀ f ∈ S 4, f ≠ p := fun f hf' e => hap 4 5 (by omega) (by omega) (by omega) f hf' (by rw [hSp, e]; simp)
        obtain ⟨k3, s3, n3, ao3, len3, cap3, hv⟩ := own_shape ho
        obtain ⟨y0, y1, y2, y3, z0, z1, z2, z3⟩ := blk4 hz
        simp only [putN, List.getElem?_toArray, List.getElem?_cons_zero, List.getElem?_cons_succ, Option.bind_some, List.drop_succ_cons, List.drop_zero, hp, hv]
        generalize vals 0 = v24
        generalize vals 1 = v25
        generalize vals 2 = v26
        generalize vals 3 = v27
        rw [hv] at ho
        obtain ⟨R, hR⟩ : ∃ R, R = walkT ks 5000 t := ⟨_, rfl⟩
        rw [← hR] at ho HRW
        have HWK : Hid (∀ w1 s1 v1 F1 F2, OwnS 28 w1 ks s1 F1 → F1.Nodup → Own 28 w1 t v1 F2 → F2.Nodup → Calls Try.prog 23 #[.agg #[s1], v1] w1 fun e w' => ∃ v' F, e = .returned v' ∧ Own 28 w' R v' F ∧ (∀ f ∈ F, w1.heap.size ≤ f) ∧ F.Nodup ∧ Below w1.heap.size w1 w') := fun w1 s1 v1 F1 F2 h1 h2 h3 h4 => by
          rw [hR]
          exact impl_walked ks t w1 s1 v1 F1 F2 h1 h2 h3 h4 (by have := HKW.out; omega) (by rw [← hR]; exact HRW.out)
        have HNS : Hid (ns ks ≤ 1048576 ∧ ns t.kids ≤ 1048576 ∧ ns R.kids ≤ 1048576) := by
          refine ⟨?_, ?_, ?_⟩
          · have := n_le_wt (.mk 0 ⟨#[]⟩ 0 ks)
            have ew : (Tm.mk 0 ⟨#[]⟩ 0 ks).wt = 0 + (ks.length + wts ks) := by simp [Tm.wt, wts]; rfl
            rw [n_mk, ew] at this
            have := HKW.out
            omega
          · have h1 := n_le_wt t
            obtain ⟨k9, s9, n9, ks9⟩ := t
            rw [n_mk] at h1
            have := HTW.out
            show ns ks9 ≤ 1048576
            omega
          · have h1 := n_le_wt R
            obtain ⟨k9, s9, n9, ks9⟩ := R
            rw [n_mk] at h1
            have := HRW.out
            show ns ks9 ≤ 1048576
            omega
        clear hR
        go_upto_region 9 with fail
        obtain ⟨w3, hw3⟩ : ∃ w3, w3 = ((((w'.setCell ⟨p, 0, none⟩ (.int .i64 k3)).setCell ⟨p, 1, none⟩ (.string s3)).setCell ⟨p, 2, none⟩ (.int .i64 n3)).setCell ⟨p, 3, none⟩ (.slice ao3 len3 cap3)) := ⟨_, rfl⟩
        rw [← hw3]
        have hps : p < w'.heap.size := (Array.getElem?_eq_some_iff.1 hz).1
        have hsw3 : w3.heap.size = w'.heap.size := by rw [hw3]; simp [World.setCell]
        have HB3 : Hid (Below W.heap.size W w3) := by
          rw [hw3]
          have h1 : Below W.heap.size W w' := HB2.out.trans (hb.mono HB2.out.size)
          exact blk4_below h1 (by have := HB2.out.size; omega)
        have k6 : w3.heap[p]? = some (.cells #[.int .i64 k3, .string s3, .int .i64 n3, .slice ao3 len3 cap3] 28 (0, 0)) := by rw [hw3]; exact blk4_set hz
        have t6 : TmIn w3 R (.agg #[.int .i64 k3, .string s3, .int .i64 n3, .slice ao3 len3 cap3]) := by
          refine Own.toIn _ _ (S 4) (Own.keep _ _ _ ho fun f hf => ?_)
          rw [hw3]
          exact blk4_other (hpF f hf)
        have H6 : Hid (∀ w', Below w3.heap.size w3 w' → w'.cell? ⟨p, 0, none⟩ = some (.int .i64 k3) ∧ w'.cell? ⟨p, 1, none⟩ = some (.string s3) ∧ w'.cell? ⟨p, 2, none⟩ = some (.int .i64 n3) ∧ w'.cell? ⟨p, 3, none⟩ = some (.slice ao3 len3 cap3) ∧ TmIn w' R (.agg #[.int .i64 k3, .string s3, .int .i64 n3, .slice ao3 len3 cap3])) := fun w' hb => by
          obtain ⟨q0, q1, q2, q3, _⟩ := blk4 ((hb.block p (by omega)).trans k6)
          exact ⟨q0, q1, q2, q3, TmIn.keep hb _ _ t6⟩
        clear hw3 hps y0 y1 y2 y3 z0 z1 z2 z3 hz hf ho hv hb k6 t6 hsw3 hpl hp hpF hap hSp HB2 HSZ HST hW
        -- x0
        obtain ⟨g1, _, c0, _⟩ := HARG.out w3 HB3.out
        have HC7 : Hid _ := to_binds ks w3 _ g1 HKW.out
        clear g1
        go_upto_region 10 with (go_at_call 22; refine (Calls.mono HC7.out ?_); rintro e w4 ⟨s7, F7, rfl, o7, f7, n7, b7⟩; obtain ⟨p1, p2, p3, rfl⟩ := ownS_shape o7; have O7 : Hid (OwnS 28 w4 ks (.slice p1 p2 p3) F7) := o7; have N7 : Hid ((∀ f ∈ F7, w3.heap.size ≤ f) ∧ F7.Nodup) := ⟨f7, n7⟩; have B7 : Hid (Below w3.heap.size w3 w4) := b7; clear o7 f7 n7 b7)
        obtain ⟨W4, hW4⟩ : ∃ W4, W4 = w4.alloc (.cells #[.slice p1 p2 p3] 35) := ⟨_, rfl⟩
        rw [← hW4]
        have bW4 : Below w4.heap.size w4 W4 := by rw [hW4]; exact (Below.refl _ _).alloc (Nat.le_refl _) _
        have k7 : W4.heap[w4.heap.size]? = some (.cells #[.slice p1 p2 p3] 35 (0, 0)) := by rw [hW4]; exact heap_alloc_new _ _
        have HB4 : Hid (Below w3.heap.size w3 W4) := B7.out.trans (bW4.mono B7.out.size)
        have hB4 : Hid (Below W.heap.size W W4) := HB3.out.trans (HB4.out.mono HB3.out.size)
        have O7' : Hid (OwnS 28 W4 ks (.slice p1 p2 p3) F7) := O7.out.keep fun f hf => bW4.block f (O7.out.lt f hf)
        have L7 : Hid (∀ f ∈ F7, f < w4.heap.size) := fun f hf => O7.out.lt f hf
        have sW4 : W4.heap.size = w4.heap.size + 1 := by rw [hW4]; simp
        have hs34 : w3.heap.size ≤ w4.heap.size := B7.out.size
        obtain ⟨p7, hp7⟩ : ∃ p7, p7 = w4.heap.size := ⟨_, rfl⟩
        rw [← hp7] at k7 sW4 L7 hs34 ⊢
        have K7 : Hid (W4.heap[p7]? = some (.cells #[.slice p1 p2 p3] 35 (0, 0))) := k7
        clear hW4 bW4 k7 O7 B7 hp7 c0 HC7
        -- x1
        obtain ⟨_, g2, _, c1, c2, c3, c4⟩ := HARG.out W4 hB4.out
        have HC8 : Hid _ := to_term t W4 _ g2 HTW.out
        clear g2
        go_upto_region 11 with (go_at_call 10; refine (Calls.mono HC8.out ?_); rintro e w5 ⟨v8, F8, rfl, o8, f8, n8, b8⟩; obtain ⟨k8, s8, m8, ao8, l8, cp8, rfl⟩ := own_shape o8; have O8 : Hid (Own 28 w5 t (.agg #[.int .i64 k8, .string s8, .int .i64 m8, .slice ao8 l8 cp8]) F8) := o8; have N8 : Hid ((∀ f ∈ F8, W4.heap.size ≤ f) ∧ F8.Nodup) := ⟨f8, n8⟩; have B8 : Hid (Below W4.heap.size W4 w5) := b8; clear o8 f8 n8 b8)
        obtain ⟨W5, hW5⟩ : ∃ W5, W5 = w5.alloc (.cells #[.int .i64 k8, .string s8, .int .i64 m8, .slice ao8 l8 cp8] 28) := ⟨_, rfl⟩
        rw [← hW5]
        have bW5 : Below w5.heap.size w5 W5 := by rw [hW5]; exact (Below.refl _ _).alloc (Nat.le_refl _) _
        have k8b : W5.heap[w5.heap.size]? = some (.cells #[.int .i64 k8, .string s8, .int .i64 m8, .slice ao8 l8 cp8] 28 (0, 0)) := by rw [hW5]; exact heap_alloc_new _ _
        have HB5 : Hid (Below W4.heap.size W4 W5) := B8.out.trans (bW5.mono B8.out.size)
        have O8' : Hid (Own 28 W5 t (.agg #[.int .i64 k8, .string s8, .int .i64 m8, .slice ao8 l8 cp8]) F8) := Own.keep _ _ _ O8.out fun f hf => bW5.block f (Own.lt _ _ _ O8.out f hf)
        have L8 : Hid (∀ f ∈ F8, f < w5.heap.size) := Own.lt _ _ _ O8.out
        have sW5 : W5.heap.size = w5.heap.size + 1 := by rw [hW5]; simp
        have hs45 : W4.heap.size ≤ w5.heap.size := B8.out.size
        obtain ⟨p8, hp8⟩ : ∃ p8, p8 = w5.heap.size := ⟨_, rfl⟩
        rw [← hp8] at k8b sW5 L8 hs45 ⊢
        have K8 : Hid (W5.heap[p8]? = some (.cells #[.int .i64 k8, .string s8, .int .i64 m8, .slice ao8 l8 cp8] 28 (0, 0))) := k8b
        have O7b : Hid (OwnS 28 W5 ks (.slice p1 p2 p3) F7) := O7'.out.keep fun f hf => HB5.out.block f (O7'.out.lt f hf)
        have K7b : Hid (W5.heap[p7]? = some (.cells #[.slice p1 p2 p3] 35 (0, 0))) := (HB5.out.block p7 (by omega)).trans K7.out
        clear hW5 bW5 k8b O8 B8 hp8 c1 c2 c3 c4 HC8 O7' K7
        -- g0
        have d7 : W5.cell? ⟨p7, 0, none⟩ = some (.slice p1 p2 p3) := blk_cell (i := 0) K7b.out (by simp)
        obtain ⟨e0, e1, e2, e3, _⟩ := blk4 K8.out
        have HC9 : Hid _ := HWK.out W5 _ _ F7 F8 O7b.out N7.out.2 O8'.out N8.out.2
        go_upto_region 12 with (go_at_call 23; refine (Calls.mono HC9.out ?_); rintro e w6 ⟨v9, F9, rfl, o9, f9, n9, b9⟩; obtain ⟨k9, s9, m9, ao9, l9, cp9, rfl⟩ := own_shape o9; have O9 : Hid (Own 28 w6 R (.agg #[.int .i64 k9, .string s9, .int .i64 m9, .slice ao9 l9 cp9]) F9) := o9; have N9 : Hid ((∀ f ∈ F9, W5.heap.size ≤ f) ∧ F9.Nodup) := ⟨f9, n9⟩; have B9 : Hid (Below W5.heap.size W5 w6) := b9; clear o9 f9 n9 b9)
        obtain ⟨W6, hW6⟩ : ∃ W6, W6 = w6.alloc (.cells #[.int .i64 k9, .string s9, .int .i64 m9, .slice ao9 l9 cp9] 28) := ⟨_, rfl⟩
        rw [← hW6]
        have bW6 : Below w6.heap.size w6 W6 := by rw [hW6]; exact (Below.refl _ _).alloc (Nat.le_refl _) _
        have k9b : W6.heap[w6.heap.size]? = some (.cells #[.int .i64 k9, .string s9, .int .i64 m9, .slice ao9 l9 cp9] 28 (0, 0)) := by rw [hW6]; exact heap_alloc_new _ _
        have HB6 : Hid (Below W5.heap.size W5 W6) := B9.out.trans (bW6.mono B9.out.size)
        have O9' : Hid (Own 28 W6 R (.agg #[.int .i64 k9, .string s9, .int .i64 m9, .slice ao9 l9 cp9]) F9) := Own.keep _ _ _ O9.out fun f hf => bW6.block f (Own.lt _ _ _ O9.out f hf)
        have L9 : Hid (∀ f ∈ F9, f < w6.heap.size) := Own.lt _ _ _ O9.out
        have sW6 : W6.heap.size = w6.heap.size + 1 := by rw [hW6]; simp
        have hs56 : W5.heap.size ≤ w6.heap.size := B9.out.size
        obtain ⟨p9, hp9⟩ : ∃ p9, p9 = w6.heap.size := ⟨_, rfl⟩
        rw [← hp9] at k9b sW6 L9 hs56 ⊢
        have K9 : Hid (W6.heap[p9]? = some (.cells #[.int .i64 k9, .string s9, .int .i64 m9, .slice ao9 l9 cp9] 28 (0, 0))) := k9b
        have O8b : Hid (Own 28 W6 t (.agg #[.int .i64 k8, .string s8, .int .i64 m8, .slice ao8 l8 cp8]) F8) := Own.keep _ _ _ O8'.out fun f hf => HB6.out.block f (Own.lt _ _ _ O8'.out f hf)
        have O7c : Hid (OwnS 28 W6 ks (.slice p1 p2 p3) F7) := O7b.out.keep fun f hf => HB6.out.block f (O7b.out.lt f hf)
        have K7c : Hid (W6.heap[p7]? = some (.cells #[.slice p1 p2 p3] 35 (0, 0))) := (HB6.out.block p7 (by omega)).trans K7b.out
        have K8c : Hid (W6.heap[p8]? = some (.cells #[.int .i64 k8, .string s8, .int .i64 m8, .slice ao8 l8 cp8] 28 (0, 0))) := (HB6.out.block p8 (by omega)).trans K8.out
        have HB36 : Hid (Below w3.heap.size w3 W6) := by
          have h1 := HB4.out.trans (HB5.out.mono HB4.out.size)
          exact h1.trans (HB6.out.mono h1.size)
        clear hW6 bW6 k9b O9 B9 hp9 HC9 d7 e0 e1 e2 e3 O8' O7b K7b K8
        have HALL : Hid (∀ w', Out (F7 ++ (F8 ++ F9)) W6 w' → Below w3.heap.size w3 w' ∧ w'.cell? ⟨p7, 0, none⟩ = some (.slice p1 p2 p3) ∧ (w'.cell? ⟨p8, 0, none⟩ = some (.int .i64 k8) ∧ w'.cell? ⟨p8, 1, none⟩ = some (.string s8) ∧ w'.cell? ⟨p8, 2, none⟩ = some (.int .i64 m8) ∧ w'.cell? ⟨p8, 3, none⟩ = some (.slice ao8 l8 cp8)) ∧ w'.cell? ⟨p9, 0, none⟩ = some (.int .i64 k9) ∧ w'.cell? ⟨p9, 1, none⟩ = some (.string s9) ∧ w'.cell? ⟨p9, 2, none⟩ = some (.int .i64 m9) ∧ w'.cell? ⟨p9, 3, none⟩ = some (.slice ao9 l9 cp9)) := fun w' hu => by
          have h7 : ∀ f ∈ F7, w3.heap.size ≤ f ∧ f < p7 := fun f hf => ⟨N7.out.1 f hf, L7.out f hf⟩
          have h8 : ∀ f ∈ F8, W4.heap.size ≤ f ∧ f < p8 := fun f hf => ⟨N8.out.1 f hf, L8.out f hf⟩
          have h9 : ∀ f ∈ F9, W5.heap.size ≤ f ∧ f < p9 := fun f hf => ⟨N9.out.1 f hf, L9.out f hf⟩
          have hb : Below w3.heap.size w3 w' := HB36.out.trans (hu.below (fun f hf => by
            rcases List.mem_append.1 hf with hf | hf
            · exact (h7 f hf).1
            · rcases List.mem_append.1 hf with hf | hf
              · have := (h8 f hf).1; omega
              · have := (h9 f hf).1; omega) HB36.out.size)
          have hn7 : p7 ∉ F7 ++ (F8 ++ F9) := fun hf => by
            rcases List.mem_append.1 hf with hf | hf
            · have := (h7 _ hf).2; omega
            · rcases List.mem_append.1 hf with hf | hf
              · have := (h8 _ hf).1; omega
              · have := (h9 _ hf).1; omega
          have hn8 : p8 ∉ F7 ++ (F8 ++ F9) := fun hf => by
            rcases List.mem_append.1 hf with hf | hf
            · have := (h7 _ hf).2; omega
            · rcases List.mem_append.1 hf with hf | hf
              · have := (h8 _ hf).2; omega
              · have := (h9 _ hf).1; omega
          have hn9 : p9 ∉ F7 ++ (F8 ++ F9) := fun hf => by
            rcases List.mem_append.1 hf with hf | hf
            · have := (h7 _ hf).2; omega
            · rcases List.mem_append.1 hf with hf | hf
              · have := (h8 _ hf).2; omega
              · have := (h9 _ hf).2; omega
          obtain ⟨a0, a1, a2, a3, _⟩ := blk4 ((hu.block p8 (by omega) hn8).trans K8c.out)
          obtain ⟨b0, b1, b2, b3, _⟩ := blk4 ((hu.block p9 (by omega) hn9).trans K9.out)
          exact ⟨hb, blk_cell (i := 0) ((hu.block p7 (by omega) hn7).trans K7c.out) (by simp), ⟨a0, a1, a2, a3⟩, b0, b1, b2, b3⟩
        have D78 : Hid (∀ f ∈ F8, f ∉ F7) := fun f hf h => by have := N8.out.1 f hf; have := L7.out f h; omega
        have D79 : Hid (∀ f ∈ F9, f ∉ F7) := fun f hf h => by have := N9.out.1 f hf; have := L7.out f h; omega
        have D89 : Hid (∀ f ∈ F9, f ∉ F8) := fun f hf h => by have := N9.out.1 f hf; have := L8.out f h; omega
        clear K7c K8c K9 L7 L8 L9 HB36 HB4 HB5 HB6 hB4 hs45 hs56 hs34 sW4 sW5 sW6
        -- g0 is w0
        obtain ⟨a1, _, _, b0, b1, b2, b3⟩ := HALL.out W6 (Out.refl _ _)
        obtain ⟨x0, x1, x2, x3, x4⟩ := H6.out W6 a1
        have HE : Hid _ := eq_term R W6 _ _ (Own.toIn _ _ _ O9'.out) x4
        clear x4 a1
        go_upto_region 14 with (go_at_call 12; refine (Calls.mono HE.out ?_); rintro e w7 ⟨rfl, b7⟩; have U7 : Hid (Below W6.heap.size W6 w7) := b7; clear b7)
        clear b0 b1 b2 b3 x0 x1 x2 x3 HE
        -- x0 is as it was
        refine wp_region_facts 4 (fun i v _ w' => match i with
          | 0 => v = .agg #[.slice p1 p2 p3]
          | 1 => v = .agg #[.slice q1 ks.length q2]
          | 2 => ∃ s2, v = .agg #[s2] ∧ SlIn w' ks s2
          | _ => v = .bool true) (by kernel_rfl) (by kernel_rfl) 92 rfl (by kernel_rfl) ?_ ?_ ?_
        · intro i v S w w' hi h hb
          match i, hi, h with
          | 0, _, h => exact h
          | 1, _, h => exact h
          | 2, _, ⟨s2, h1, h2⟩ => exact ⟨s2, h1, h2.keep hb⟩
          | 3, _, h => exact h
        · intro i o hi ho a w' hb hfr hdep
          have hb6 : Below W6.heap.size W6 w' := U7.out.trans (hb.mono U7.out.size)
          obtain ⟨hb3, c7, _, _⟩ := HALL.out w' (Out.of_below hb6)
          obtain ⟨g1, _, c0, _⟩ := HARG.out w' (HB3.out.trans (hb3.mono HB3.out.size))
          have u2 : a.tmps.getD 2 undef = .pointer (some ⟨w.heap.size, 0, none⟩) := hfr 2 (by decide)
          have u7 : a.tmps.getD 7 undef = .pointer (some ⟨p7, 0, none⟩) := hfr 7 (by decide)
          match i, hi with
          | 0, _ =>
            obtain rfl : _ = o := by simpa using ho
            refine fact_value (w' := w') (v := .agg #[.slice p1 p2 p3]) ?_ (Below.refl _ _) ⟨[], rfl, by simp⟩
            simp only [execOp, Act.eval, u7]
            go_simp
          | 1, _ =>
            obtain rfl : _ = o := by simpa using ho
            refine fact_value (w' := w') (v := .agg #[.slice q1 ks.length q2]) ?_ (Below.refl _ _) ⟨[], rfl, by simp⟩
            simp only [execOp, Act.eval, u2]
            go_simp
          | 2, _ =>
            obtain rfl : _ = o := by simpa using ho
            obtain ⟨_, h0⟩ : ∃ _ : List Nat, a.tmps.getD 41 undef = .agg #[.slice q1 ks.length q2] := hdep 1 (by kernel_rfl)
            refine fact_call rfl Try.func22 (by kernel_rfl) (by kernel_rfl) (args := #[.agg #[.slice q1 ks.length q2]]) ?_ ?_
            · simp [Act.eval, h0]
            · refine Calls.mono (to_binds ks w' _ g1 HKW.out) ?_
              rintro e w4 ⟨s4, F4, rfl, o4, _, _, hb4⟩
              exact ⟨_, rfl, hb4, [], ⟨_, rfl, OwnS.toIn o4⟩, by simp⟩
          | 3, _ =>
            obtain rfl : _ = o := by simpa using ho
            obtain ⟨_, h0⟩ : ∃ _ : List Nat, a.tmps.getD 40 undef = .agg #[.slice p1 p2 p3] := hdep 0 (by kernel_rfl)
            obtain ⟨_, s4, h1, h2⟩ : ∃ _ : List Nat, ∃ s2, a.tmps.getD 42 undef = .agg #[s2] ∧ SlIn w' ks s2 := hdep 2 (by kernel_rfl)
            refine fact_call rfl Try.func17 (by kernel_rfl) (by kernel_rfl) (args := #[.agg #[.slice p1 p2 p3], .agg #[s4]]) ?_ ?_
            · simp [Act.eval, h0, h1]
            · refine Calls.mono (eq_binds ks w' _ _ (SlIn.keep (OwnS.toIn O7c.out) hb6) h2) ?_
              rintro e w4 ⟨rfl, hb4⟩
              exact ⟨_, rfl, hb4, [], rfl, by simp⟩
        intro vals S w8 hb hf _
        have h3 : vals 3 = .bool true := (hf 3 (by omega)).1
        have U8 : Hid (Below W6.heap.size W6 w8) := U7.out.trans (hb.mono U7.out.size)
        simp only [putN, List.getElem?_toArray, List.getElem?_cons_zero, List.getElem?_cons_succ, Option.bind_some, List.drop_succ_cons, List.drop_zero, h3]
        generalize vals 0 = v40
        generalize vals 1 = v41
        generalize vals 2 = v42
        clear hf h3 hb U7
        go_upto_region 16 with fail
        -- x1 is as it was
        refine wp_region_facts 4 (fun i v _ w' => match i with
          | 0 => v = .agg #[.int .i64 k8, .string s8, .int .i64 m8, .slice ao8 l8 cp8]
          | 1 => v = .agg #[.int .i64 k, .string s, .int .i64 n, .slice ao len cap]
          | 2 => TmIn w' t v
          | _ => v = .bool true) (by kernel_rfl) (by kernel_rfl) 92 rfl (by kernel_rfl) ?_ ?_ ?_
        · intro i v S w w' hi h hb
          match i, hi, h with
          | 0, _, h => exact h
          | 1, _, h => exact h
          | 2, _, h => exact TmIn.keep hb _ _ h
          | 3, _, h => exact h
        · intro i o hi ho a w' hb hfr hdep
          have hb6 : Below W6.heap.size W6 w' := U8.out.trans (hb.mono U8.out.size)
          obtain ⟨hb3, _, ⟨f0, f1, f2, f3⟩, _⟩ := HALL.out w' (Out.of_below hb6)
          obtain ⟨_, g2, _, c1, c2, c3, c4⟩ := HARG.out w' (HB3.out.trans (hb3.mono HB3.out.size))
          have u3 : a.tmps.getD 3 undef = .pointer (some ⟨w.heap.size + 1, 0, none⟩) := hfr 3 (by decide)
          have u8 : a.tmps.getD 8 undef = .pointer (some ⟨p8, 0, none⟩) := hfr 8 (by decide)
          match i, hi with
          | 0, _ =>
            obtain rfl : _ = o := by simpa using ho
            refine fact_value (w' := w') (v := .agg #[.int .i64 k8, .string s8, .int .i64 m8, .slice ao8 l8 cp8]) ?_ (Below.refl _ _) ⟨[], rfl, by simp⟩
            simp only [execOp, Act.eval, u8]
            go_simp
          | 1, _ =>
            obtain rfl : _ = o := by simpa using ho
            refine fact_value (w' := w') (v := .agg #[.int .i64 k, .string s, .int .i64 n, .slice ao len cap]) ?_ (Below.refl _ _) ⟨[], rfl, by simp⟩
            simp only [execOp, Act.eval, u3]
            go_simp
          | 2, _ =>
            obtain rfl : _ = o := by simpa using ho
            obtain ⟨_, h0⟩ : ∃ _ : List Nat, a.tmps.getD 46 undef = .agg #[.int .i64 k, .string s, .int .i64 n, .slice ao len cap] := hdep 1 (by kernel_rfl)
            refine fact_call rfl Try.func10 (by kernel_rfl) (by kernel_rfl) (args := #[.agg #[.int .i64 k, .string s, .int .i64 n, .slice ao len cap]]) ?_ ?_
            · simp [Act.eval, h0]
            · refine Calls.mono (to_term t w' _ g2 HTW.out) ?_
              rintro e w4 ⟨v4, F4, rfl, o4, _, _, hb4⟩
              exact ⟨_, rfl, hb4, [], Own.toIn _ _ _ o4, by simp⟩
          | 3, _ =>
            obtain rfl : _ = o := by simpa using ho
            obtain ⟨_, h0⟩ : ∃ _ : List Nat, a.tmps.getD 45 undef = .agg #[.int .i64 k8, .string s8, .int .i64 m8, .slice ao8 l8 cp8] := hdep 0 (by kernel_rfl)
            obtain ⟨_, h2⟩ : ∃ _ : List Nat, TmIn w' t (a.tmps.getD 47 undef) := hdep 2 (by kernel_rfl)
            refine fact_call rfl Try.func12 (by kernel_rfl) (by kernel_rfl) (args := #[.agg #[.int .i64 k8, .string s8, .int .i64 m8, .slice ao8 l8 cp8], a.tmps.getD 47 undef]) ?_ ?_
            · simp [Act.eval, h0]
            · refine Calls.mono (eq_term t w' _ _ (TmIn.keep hb6 _ _ (Own.toIn _ _ _ O8b.out)) h2) ?_
              rintro e w4 ⟨rfl, hb4⟩
              exact ⟨_, rfl, hb4, [], rfl, by simp⟩
        intro vals S w9 hb hf _
        have h3 : vals 3 = .bool true := (hf 3 (by omega)).1
        have U9 : Hid (Below W6.heap.size W6 w9) := U8.out.trans (hb.mono U8.out.size)
        simp only [putN, List.getElem?_toArray, List.getElem?_cons_zero, List.getElem?_cons_succ, Option.bind_some, List.drop_succ_cons, List.drop_zero, h3]
        generalize vals 0 = v45
        generalize vals 1 = v46
        generalize vals 2 = v47
        clear hf h3 hb U8
        go_upto_region 19 with fail
        -- what is written into x0 and x1 is not in g0
        obtain ⟨_, c7, _, _⟩ := HALL.out w9 (Out.of_below U9.out)
        have HK := mark_binds ks w9 _ F7 1 (O7c.out.keep fun f hf => U9.out.block f (O7c.out.lt f hf)) N7.out.2 (by omega) (by have := HNS.out.1; omega)
        have HN1 : Hid (1 + 3 * ns ks ≤ 3145729) := by have := HNS.out.1; show _ ≤ _; omega
        have hpos1 : Hid (0 < 1 + 3 * ns ks) := by show 0 < _; omega
        generalize 1 + 3 * ns ks = nx1 at HK HN1 hpos1
        replace HK : Hid _ := HK
        go_upto_region 20 with (go_at_call 18; refine (Calls.mono HK.out ?_); rintro e w10 ⟨rfl, _, u⟩; have U10 : Hid (Out F7 w9 w10) := u; clear u)
        clear c7 HK
        have V10 : Hid (Out (F7 ++ (F8 ++ F9)) W6 w10) := (Out.of_below U9.out).trans (U10.out.mono fun f hf => List.mem_append_left _ hf)
        have O8d : Hid (Own 28 w10 t (.agg #[.int .i64 k8, .string s8, .int .i64 m8, .slice ao8 l8 cp8]) F8) := Own.keep _ _ _ O8b.out fun f hf => by
          have hl := Own.lt _ _ _ O8b.out f hf
          exact (U10.out.block f (Nat.lt_of_lt_of_le hl U9.out.size) (D78.out f hf)).trans (U9.out.block f hl)
        have O9d : Hid (Own 28 w10 R (.agg #[.int .i64 k9, .string s9, .int .i64 m9, .slice ao9 l9 cp9]) F9) := Own.keep _ _ _ O9'.out fun f hf => by
          have hl := Own.lt _ _ _ O9'.out f hf
          exact (U10.out.block f (Nat.lt_of_lt_of_le hl U9.out.size) (D79.out f hf)).trans (U9.out.block f hl)
        obtain ⟨_, _, ⟨f0, f1, f2, f3⟩, _⟩ := HALL.out w10 V10.out
        have HK := mark_term t w10 _ F8 nx1 O8d.out N8.out.2 hpos1.out (by have := HNS.out.2.1; have := HN1.out; omega)
        have HN2 : ¬ ((nx1 + 3 * ns t.kids : Nat) : Int) < 0 := by omega
        generalize nx1 + 3 * ns t.kids = nx2 at HK HN2
        replace HK : Hid _ := HK
        go_upto_region 21 with (go_at_call 13; refine (Calls.mono HK.out ?_); rintro e w11 ⟨rfl, _, u⟩; have U11 : Hid (Out F8 w10 w11) := u; clear u)
        clear f0 f1 f2 f3 HK O8d
        have V11 : Hid (Out (F7 ++ (F8 ++ F9)) W6 w11) := V10.out.trans (U11.out.mono fun f hf => List.mem_append_right _ (List.mem_append_left _ hf))
        have O9e : Hid (Own 28 w11 R (.agg #[.int .i64 k9, .string s9, .int .i64 m9, .slice ao9 l9 cp9]) F9) := Own.keep _ _ _ O9d.out fun f hf => U11.out.block f (Own.lt _ _ _ O9d.out f hf) (D89.out f hf)
        obtain ⟨a1, _, _, b0, b1, b2, b3⟩ := HALL.out w11 V11.out
        obtain ⟨x0, x1, x2, x3, x4⟩ := H6.out w11 a1
        have HE : Hid _ := eq_term R w11 _ _ (Own.toIn _ _ _ O9e.out) x4
        clear x4 a1
        go_upto_region 24 with (go_at_call 12; refine (Calls.mono HE.out ?_); rintro e w12 ⟨rfl, b12⟩; have U12 : Hid (Below w11.heap.size w11 w12) := b12; clear b12)
        clear b0 b1 b2 b3 x0 x1 x2 x3 HE O9d
        -- g0 owns its memory
        have V12 : Hid (Out (F7 ++ (F8 ++ F9)) W6 w12) := V11.out.trans (Out.of_below U12.out)
        have O9f : Hid (Own 28 w12 R (.agg #[.int .i64 k9, .string s9, .int .i64 m9, .slice ao9 l9 cp9]) F9) := Own.keep _ _ _ O9e.out fun f hf => U12.out.block f (Own.lt _ _ _ O9e.out f hf)
        obtain ⟨_, _, _, b0, b1, b2, b3⟩ := HALL.out w12 V12.out
        have HK := mark_term R w12 _ F9 1 O9f.out N9.out.2 (by omega) (by have := HNS.out.2.2; omega)
        have HHD : Hid (∀ w', TmIn w' (R.markK 1) (.agg #[.int .i64 k9, .string s9, .int .i64 m9, .slice ao9 l9 cp9]) → Calls Try.prog 14 #[.agg #[.int .i64 k9, .string s9, .int .i64 m9, .slice ao9 l9 cp9], .int .i64 ((1 : Nat) : Int)] w' fun e w2 => e = .returned (.int .i64 ((1 + 3 * ns R.kids : Nat) : Int)) ∧ Below w'.heap.size w' w2) := fun w' h => held_term R w' _ 1 h (by omega) (by have := HNS.out.2.2; omega)
        have hn3 : ¬ ((1 + 3 * ns R.kids : Nat) : Int) < 0 := by omega
        generalize 1 + 3 * ns R.kids = nx3 at HK HHD hn3
        replace HK : Hid _ := HK
        go_upto_region 26 with (go_at_call 13; refine (Calls.mono HK.out ?_); rintro e w13 ⟨rfl, o13, u⟩; have U13 : Hid (Out F9 w12 w13) := u; have T13 : Hid (TmIn w13 (R.markK 1) (.agg #[.int .i64 k9, .string s9, .int .i64 m9, .slice ao9 l9 cp9])) := Own.toIn _ _ _ o13; clear u o13)
        clear b0 b1 b2 b3 HK O9e O9f
        have V13 : Hid (Out (F7 ++ (F8 ++ F9)) W6 w13) := V12.out.trans (U13.out.mono fun f hf => List.mem_append_right _ (List.mem_append_right _ hf))
        obtain ⟨_, _, _, b0, b1, b2, b3⟩ := HALL.out w13 V13.out
        have HK : Hid _ := HHD.out w13 T13.out
        go_upto_region 31 with (go_at_call 14; refine (Calls.mono HK.out ?_); rintro e w14 ⟨rfl, b14⟩; have U14 : Hid (Below w13.heap.size w13 w14) := b14; clear b14)
        clear b0 b1 b2 b3 HK
        have V14 : Hid (Out (F7 ++ (F8 ++ F9)) W6 w14) := V13.out.trans (Out.of_below U14.out)
        have B314 : Hid (Below w3.heap.size w3 w14) := (HALL.out w14 V14.out).1
        -- once more
        refine wp_region_facts 6 (fun i v S w' => match i with
          | 0 => v = .agg #[.slice q1 ks.length q2]
          | 1 => ∃ s2, v = .agg #[s2] ∧ OwnS 28 w' ks s2 S ∧ S.Nodup
          | 2 => v = .agg #[.int .i64 k, .string s, .int .i64 n, .slice ao len cap]
          | 3 => Own 28 w' t v S ∧ S.Nodup
          | 4 => Own 28 w' R v S
          | _ => ∃ p, v = .pointer (some ⟨p, 0, none⟩) ∧ S = [p] ∧ w'.heap[p]? = some (.cells #[.int .i64 0, .string ⟨#[]⟩, .int .i64 0, .slice none 0 0] 28 (0, 0))) (by kernel_rfl) (by kernel_rfl) 92 rfl (by kernel_rfl) ?_ ?_ ?_
        · intro i v S w w' hi h hb
          match i, hi, h with
          | 0, _, h => exact h
          | 1, _, ⟨s2, h1, h2, h3⟩ => exact ⟨s2, h1, h2.keep fun f hf => hb.block f (h2.lt f hf), h3⟩
          | 2, _, h => exact h
          | 3, _, ⟨h, h3⟩ => exact ⟨Own.keep _ _ _ h fun f hf => hb.block f (Own.lt _ _ _ h f hf), h3⟩
          | 4, _, h => exact Own.keep _ _ _ h fun f hf => hb.block f (Own.lt _ _ _ h f hf)
          | 5, _, ⟨p, h1, h2, h3⟩ => exact ⟨p, h1, h2, (hb.block p (Array.getElem?_eq_some_iff.1 h3).1).trans h3⟩
        · intro i o hi ho a w' hb hfr hdep
          have hb3 : Below w3.heap.size w3 w' := B314.out.trans (hb.mono B314.out.size)
          obtain ⟨g1, g2, c0, c1, c2, c3, c4⟩ := HARG.out w' (HB3.out.trans (hb3.mono HB3.out.size))
          have u2 : a.tmps.getD 2 undef = .pointer (some ⟨w.heap.size, 0, none⟩) := hfr 2 (by decide)
          have u3 : a.tmps.getD 3 undef = .pointer (some ⟨w.heap.size + 1, 0, none⟩) := hfr 3 (by decide)
          match i, hi with
          | 0, _ =>
            obtain rfl : _ = o := by simpa using ho
            refine fact_value (w' := w') (v := .agg #[.slice q1 ks.length q2]) ?_ (Below.refl _ _) ⟨[], rfl, by simp⟩
            simp only [execOp, Act.eval, u2]
            go_simp
          | 1, _ =>
            obtain rfl : _ = o := by simpa using ho
            obtain ⟨_, h0⟩ : ∃ _ : List Nat, a.tmps.getD 75 undef = .agg #[.slice q1 ks.length q2] := hdep 0 (by kernel_rfl)
            refine fact_call rfl Try.func22 (by kernel_rfl) (by kernel_rfl) (args := #[.agg #[.slice q1 ks.length q2]]) ?_ ?_
            · simp [Act.eval, h0]
            · refine Calls.mono (to_binds ks w' _ g1 HKW.out) ?_
              rintro e w4 ⟨s4, F4, rfl, o4, f4, n4, hb4⟩
              exact ⟨_, rfl, hb4, F4, ⟨_, rfl, o4, n4⟩, fun f hf => ⟨f4 f hf, o4.lt f hf⟩⟩
          | 2, _ =>
            obtain rfl : _ = o := by simpa using ho
            refine fact_value (w' := w') (v := .agg #[.int .i64 k, .string s, .int .i64 n, .slice ao len cap]) ?_ (Below.refl _ _) ⟨[], rfl, by simp⟩
            simp only [execOp, Act.eval, u3]
            go_simp
          | 3, _ =>
            obtain rfl : _ = o := by simpa using ho
            obtain ⟨_, h0⟩ : ∃ _ : List Nat, a.tmps.getD 77 undef = .agg #[.int .i64 k, .string s, .int .i64 n, .slice ao len cap] := hdep 2 (by kernel_rfl)
            refine fact_call rfl Try.func10 (by kernel_rfl) (by kernel_rfl) (args := #[.agg #[.int .i64 k, .string s, .int .i64 n, .slice ao len cap]]) ?_ ?_
            · simp [Act.eval, h0]
            · refine Calls.mono (to_term t w' _ g2 HTW.out) ?_
              rintro e w4 ⟨v4, F4, rfl, o4, f4, n4, hb4⟩
              exact ⟨_, rfl, hb4, F4, ⟨o4, n4⟩, fun f hf => ⟨f4 f hf, Own.lt _ _ _ o4 f hf⟩⟩
          | 4, _ =>
            obtain rfl : _ = o := by simpa using ho
            obtain ⟨S1, s4, h0, h1, h1n⟩ : ∃ S : List Nat, ∃ s2, a.tmps.getD 76 undef = .agg #[s2] ∧ OwnS 28 w' ks s2 S ∧ S.Nodup := hdep 1 (by kernel_rfl)
            obtain ⟨S3, h2, h2n⟩ : ∃ S : List Nat, Own 28 w' t (a.tmps.getD 78 undef) S ∧ S.Nodup := hdep 3 (by kernel_rfl)
            refine fact_call rfl Try.func23 (by kernel_rfl) (by kernel_rfl) (args := #[.agg #[s4], a.tmps.getD 78 undef]) ?_ ?_
            · simp [Act.eval, h0]
            · refine Calls.mono (HWK.out w' s4 _ S1 S3 h1 h1n h2 h2n) ?_
              rintro e w4 ⟨v4, F4, rfl, o4, f4, _, hb4⟩
              exact ⟨_, rfl, hb4, F4, o4, fun f hf => ⟨f4 f hf, Own.lt _ _ _ o4 f hf⟩⟩
          | 5, _ =>
            obtain rfl : _ = o := by simpa using ho
            refine fact_value (w' := w'.alloc (.cells #[.int .i64 0, .string ⟨#[]⟩, .int .i64 0, .slice none 0 0] 28)) (v := .pointer (some ⟨w'.heap.size, 0, none⟩)) ?_ ((Below.refl _ _).alloc (Nat.le_refl _) _) ⟨[w'.heap.size], ⟨_, rfl, rfl, heap_alloc_new _ _⟩, by simp⟩
            simp only [execOp]
            go_simp
        intro vals S w' hb hf hap
        have ho : Own 28 w' R (vals 4) (S 4) := (hf 4 (by omega)).1
        obtain ⟨p13, hp, hSp, hz⟩ : ∃ p, vals 5 = .pointer (some ⟨p, 0, none⟩) ∧ S 5 = [p] ∧ w'.heap[p]? = some (.cells #[.int .i64 0, .string ⟨#[]⟩, .int .i64 0, .slice none 0 0] 28 (0, 0)) := (hf 5 (by omega)).1
        have hpl : w14.heap.size ≤ p13 := ((hf 5 (by omega)).2 p13 (by rw [hSp]; simp)).1
        have hpF : ∀ f ∈ S 4, f ≠ p13 := fun f hf' e => hap 4 5 (by omega) (by omega) (by omega) f hf' (by rw [hSp, e]; simp)
        obtain ⟨ka, sa, na, aoa, lena, capa, hv⟩ := own_shape ho
        obtain ⟨y0, y1, y2, y3, z0, z1, z2, z3⟩ := blk4 hz
        simp only [putN, List.getElem?_toArray, List.getElem?_cons_zero, List.getElem?_cons_succ, Option.bind_some, List.drop_succ_cons, List.drop_zero, hp, hv]
        generalize vals 0 = v75
        generalize vals 1 = v76
        generalize vals 2 = v77
        generalize vals 3 = v78
        rw [hv] at ho
        go_upto_region 32 with fail
        obtain ⟨w15, hw15⟩ : ∃ w15, w15 = ((((w'.setCell ⟨p13, 0, none⟩ (.int .i64 ka)).setCell ⟨p13, 1, none⟩ (.string sa)).setCell ⟨p13, 2, none⟩ (.int .i64 na)).setCell ⟨p13, 3, none⟩ (.slice aoa lena capa)) := ⟨_, rfl⟩
        rw [← hw15]
        have B15 : Hid (Below w14.heap.size w14 w15) := by rw [hw15]; exact blk4_below hb hpl
        obtain ⟨y0, y1, y2, y3, _⟩ : _ := blk4 (w := w15) (by rw [hw15]; exact blk4_set hz)
        have t13 : TmIn w15 R (.agg #[.int .i64 ka, .string sa, .int .i64 na, .slice aoa lena capa]) := by
          refine Own.toIn _ _ (S 4) (Own.keep _ _ _ ho fun f hf => ?_)
          rw [hw15]
          exact blk4_other (hpF f hf)
        have B15' : Hid (Below w13.heap.size w13 w15) := U14.out.trans (B15.out.mono U14.out.size)
        have V15 : Hid (Out (F7 ++ (F8 ++ F9)) W6 w15) := V14.out.trans (Out.of_below B15.out)
        obtain ⟨a1, _⟩ := HALL.out w15 V15.out
        obtain ⟨x0, x1, x2, x3, x4⟩ := H6.out w15 a1
        have HE : Hid _ := eq_term R w15 _ _ t13 x4
        clear x4 a1 t13 hw15 hz hf ho hv hb hpl hp hpF hap hSp
        go_upto_region 35 with (go_at_call 12; refine (Calls.mono HE.out ?_); rintro e w16 ⟨rfl, b16⟩; have U16 : Hid (Below w15.heap.size w15 w16) := b16; clear b16)
        clear y0 y1 y2 y3 x0 x1 x2 x3 HE
        have V16 : Hid (Out (F7 ++ (F8 ++ F9)) W6 w16) := V15.out.trans (Out.of_below U16.out)
        have B16 : Hid (Below w13.heap.size w13 w16) := B15'.out.trans (U16.out.mono B15'.out.size)
        obtain ⟨_, _, _, b0, b1, b2, b3⟩ := HALL.out w16 V16.out
        have HK : Hid _ := HHD.out w16 (TmIn.keep B16.out _ _ T13.out)
        go_wp2_with (go_at_call 14; refine (Calls.mono HK.out ?_); rintro e w17 ⟨rfl, b17⟩; have U17 : Hid (Below w16.heap.size w16 w17) := b17; clear b17)
        have V17 : Hid (Out (F7 ++ (F8 ++ F9)) W6 w17) := V16.out.trans (Out.of_below U17.out)
        go_ret
        refine ⟨rfl, ?_⟩
        have h1 := (HALL.out w17 V17.out).1
        have h2 := HB3.out.trans (h1.mono HB3.out.size)
        exact HBW.out.trans (h2.mono HBW.out.size)
    · rw [show szR t.wt (1048576 - (ks.length + wts ks)) = -1 from if_neg htw] at HST
      clear htw hkw
      generalize ((1048576 - (ks.length + wts ks) : Nat) : Int) = L1 at *
      go_enter Try.func5, Try.ntmps5
      go_wp2_with (first
        | (go_at_call 20; refine (Calls.mono HSZ.out ?_); rintro e w1 ⟨rfl, hb⟩; rw [← hW] at hb; have HB : Hid (Below W.heap.size W w1) := hb; obtain ⟨_, _, c0, c1, c2, c3, c4⟩ := HARG.out w1 hb; clear hb)
        | (go_at_call 8; refine (Calls.mono (HST.out _ HB.out) ?_); rintro e w2 ⟨rfl, hb⟩; have HB2 : Hid (Below W.heap.size W w2) := HB.out.trans (hb.mono HB.out.size); clear hb))
      go_ret
      exact ⟨rfl, HBW.out.trans (HB2.out.mono HBW.out.size)⟩
  · rw [show szR (ks.length + wts ks) 1048576 = -1 from if_neg hkw, hW] at HSZ
    replace HSZ : Hid _ := HSZ
    go_enter Try.func5, Try.ntmps5
    go_wp2_with (go_at_call 20; refine (Calls.mono HSZ.out ?_); rintro e w1 ⟨rfl, hb⟩; rw [← hW] at hb; have HB : Hid (Below w.heap.size w w1) := HBW.out.trans (hb.mono HBW.out.size); clear hb)
    go_ret
    exact ⟨rfl, HB.out⟩

theorem own : ownKnob Try.prog.godebug = none := by kernel_rfl
set_option maxRecDepth 100000 in
theorem lifted (os : Os) (started : os.Started) (H : Type) (enc : TypeId × Value → H) :
    ReturnsInHanded {} Try.checked os 5 .any (Rows.fnExactWalkedSpec.pre6 enc Try.prog Try.f5 Rows.fnExactWalkedRow.domain false) (Rows.fnExactWalkedSpec.post enc Try.prog Try.f5 false true false false) := by
  refine returnsInHanded_of_change (C := Try.checked) own started (by kernel_rfl) Try.func5
    (ChangeSpec.witness6 (enc := enc) (C := Try.checked) false ⟨#[], #[.agg #[.slice none 0 0], .agg #[.int .i64 0, .string .empty, .int .i64 0, .slice none 0 0]], []⟩ 8 (by kernel_rfl) (by kernel_rfl) (by kernel_rfl) (by kernel_rfl)) ?_
  intro W base args ds gs before hval0 hW hcnd _
  have hval : ∀ (j : Nat) t v, Try.f5.params[j]? = some t → args[j]? = some v → Value.okWide Try.prog W .any base t v := hval0
  have hW' := hW
  have hlt := hW.lt
  obtain ⟨p, q, hA0, hV, rfl, hfz, hnd⟩ := hW
  have hA : DataW.TrodAll enc Try.prog W 0 (fun _ => true) true Try.f5.params.toList args.toList ds p := hA0
  rw [Try.params5] at hA hval
  obtain ⟨v0, vs0, d0, ds0, p0, q0, hargs, rfl, rfl, h0, r0⟩ := trodAll_cons hA
  obtain ⟨v1, vs1, d1, ds1, p1, q1, hargs1, rfl, rfl, h1, r1⟩ := trodAll_cons r0
  obtain ⟨rfl, rfl, rfl⟩ := trodAll_nil r1
  obtain rfl : args = #[v0, v1] := by cases args; simp_all
  obtain ⟨rfl, rfl⟩ := trodVars_none hV
  obtain ⟨ks0, sl0, rfl, hin0⟩ := binds_split (hval 0 41 v0 rfl rfl) h0
  obtain ⟨t1, hin1⟩ := tm_split (hval 1 24 v1 rfl rfl) h1
  clear hA0 hval0
  refine (walk ks0 t1 sl0 v1 W hin0 hin1).mono fun e W' ⟨he, bel⟩ => ?_
  subst he
  exact ⟨_, rfl, _, _, _, [], _, [], hW', trodAll_mk1 (shut_bool Try.underlying4 _), (trodAll_cons_mk (Below.trod laidOutT readsBn rowBn h0 bel (fun x hx => hlt x (by simp [hx]))) (trodAll_cons_mk (Below.trod laidOutT readsTm rowTm h1 bel (fun x hx => hlt x (by simp [hx]))) trodAll_mk0)), rfl, bel.frame _, fun h => by cases h⟩

theorem over : Rows.fnExactWalkedRow.holds Try.pinned (OpenSpec.ofChange Rows.fnExactWalkedSpec) :=
  OpenClaim.holds_of_wide 5 Try.f5 rfl rfl rfl rfl rfl rfl rfl ⟨rfl, rfl, rfl, rfl, rfl⟩ rfl rfl rfl rfl rfl (by kernel_rfl) Try.func5 (by kernel_rfl)
    (of_decide_eq_true (by kernel_rfl)) (by unfold Func.isWrapper; first | (rw [if_pos (by decide +kernel)]; kernel_rfl) | (rw [if_neg (by decide +kernel)]; exact ⟨rfl, rfl⟩))
    (fun os started H enc _ => lifted os started H enc)

theorem proved : Rows.FnExactWalkedSaid := over
#print axioms proved
end Go.Proofs.Ytdcphfcenaafbam.fnExactWalked
