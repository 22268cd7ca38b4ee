/- FnExactVarsOf answers true at every term. No condition. -/
import Derived.Test.YtdcphfcenaafbalTmRow
import Derived.Test.YtdcphfcenaafbalTmSz
import Derived.Test.YtdcphfcenaafbalTmTo
import Derived.Test.YtdcphfcenaafbalTmEq
import Derived.Test.YtdcphfcenaafbalTmMark
import Derived.Test.YtdcphfcenaafbalVarsT
import Derived.Test.YtdcphfcenaafbalVarsI
import Derived.Test.YtdcphfcenaafbalIntL
import Derived.Test.YtdcphfcenaafbalRegFact
import Derived.Deep.RegionWith
import Derived.Deep.DeepCutAuto
import Derived.ChangeOld
namespace Go.Proofs.Ytdcphfcenaafbal.fnExactVarsOf
open Go.ChangeShapes Go.WideShapes Go.ChangeAt Go.RowKit

set_option maxHeartbeats 4000000 in
set_option maxRecDepth 20000 in
theorem walk (t : Tm) (v : Value) (w : World) (hin : TmIn w t v) :
    Calls Try.prog 7 #[v] w fun e w' => e = .returned (.bool true) ∧ Below w.heap.size w w' := by
  obtain ⟨k, s, n, ao, len, cap, rfl⟩ := tm_shape hin
  obtain ⟨W, hW⟩ : ∃ W, W = w.alloc (.cells #[.int .i64 k, .string s, .int .i64 n, .slice ao len cap] 24) := ⟨_, rfl⟩
  have bW : Below w.heap.size w W := by rw [hW]; exact (Below.refl _ _).alloc (Nat.le_refl _) _
  have lW : W.heap.size = w.heap.size + 1 := by rw [hW]; simp
  have k1 : W.heap[w.heap.size]? = some (.cells #[.int .i64 k, .string s, .int .i64 n, .slice ao len cap] 24 (0, 0)) := by rw [hW]; exact heap_alloc_new w _
  have HARG : Hid (∀ w', Below W.heap.size W w' → TmIn w' t (.agg #[.int .i64 k, .string s, .int .i64 n, .slice ao len cap]) ∧ w'.cell? ⟨w.heap.size, 0, none⟩ = some (.int .i64 k) ∧ w'.cell? ⟨w.heap.size, 1, none⟩ = some (.string s) ∧ w'.cell? ⟨w.heap.size, 2, none⟩ = some (.int .i64 n) ∧ w'.cell? ⟨w.heap.size, 3, none⟩ = some (.slice ao len cap)) := fun w' hb => by
    obtain ⟨q0, q1, q2, q3, _⟩ := blk4 ((hb.block _ (by omega)).trans k1)
    exact ⟨TmIn.keep hb _ _ (TmIn.keep bW _ _ hin), q0, q1, q2, q3⟩
  have HSZ := sz_term t W _ 1048576 (HARG.out W (Below.refl _ _)).1 (Nat.le_refl _)
  have HBW : Hid (Below w.heap.size w W) := bW
  clear hin k1 bW lW
  by_cases hwt : t.wt ≤ 1048576
  · rw [show szR t.wt 1048576 = ((1048576 - t.wt : Nat) : Int) from if_pos hwt, hW] at HSZ
    replace HSZ : Hid _ := HSZ
    have hl : ¬ ((1048576 - t.wt : Nat) : Int) < 0 := by omega
    have HWT : Hid (t.wt ≤ 1048576) := hwt
    have HNT : Hid (t.n ≤ 1048577 ∧ ns t.kids ≤ 1048576) := by
      have h1 := n_le_wt t
      refine ⟨by omega, ?_⟩
      obtain ⟨k9, s9, n9, ks9⟩ := t
      rw [n_mk] at h1
      show ns ks9 ≤ 1048576
      omega
    have HOL : Hid ((t.vars []).length ≤ 1048577) := by
      have h1 := vars_len t []
      have h2 := HNT.out.1
      simp only [List.length_nil] at h1
      show _ ≤ _
      omega
    generalize ((1048576 - t.wt : Nat) : Int) = L1 at *
    obtain ⟨OUT, hOUT⟩ : ∃ OUT, OUT = t.vars [] := ⟨_, rfl⟩
    rw [← hOUT] at HOL
    have HSV : Hid (∀ w1 v1, TmIn w1 t v1 → Calls Try.prog 20 #[v1] w1 fun e w' => ∃ vo, e = .returned vo ∧ NumRow w' w1.heap.size OUT vo ∧ Below w1.heap.size w1 w') := fun w1 v1 h => by rw [hOUT]; exact spec_vars t w1 v1 h (by have := HNT.out.1; omega)
    have HIV : Hid (∀ w1 v1 F1, Own 29 w1 t v1 F1 → F1.Nodup → Calls Try.prog 21 #[v1] w1 fun e w' => ∃ vo, e = .returned vo ∧ NumRow w' w1.heap.size OUT vo ∧ Below w1.heap.size w1 w') := fun w1 v1 F1 h1 h2 => by rw [hOUT]; exact impl_vars t w1 v1 F1 h1 h2 HWT.out
    clear hwt hOUT
    go_enter Try.func7, Try.ntmps7
    go_upto_region 5 with (go_at_call 9; refine (Calls.mono HSZ.out ?_); rintro e w1 ⟨rfl, hb⟩; rw [← hW] at hb; have HB : Hid (Below W.heap.size W w1) := hb; clear hb)
    obtain ⟨g2, c1, c2, c3, c4⟩ := HARG.out w1 HB.out
    have HC1 : Hid _ := to_term t w1 _ g2 HWT.out
    clear g2 hW HSZ
    go_upto_region 6 with (first
      | (go_at_call 11; refine (Calls.mono HC1.out ?_); rintro e w2 ⟨v1, F1, rfl, o1, _, _, hb⟩; obtain ⟨ka, sa, na, aoa, la, ca, rfl⟩ := own_shape o1; have HB2 : Hid (Below W.heap.size W w2) := HB.out.trans (hb.mono HB.out.size); have HC2 : Hid _ := HSV.out w2 _ (Own.toIn _ _ _ o1); clear o1 hb)
      | (go_at_call 20; refine (Calls.mono HC2.out ?_); rintro e w3 ⟨vo4, rfl, hr4, hb⟩; obtain ⟨a4, l4, rfl⟩ := hr4.shape; have R4 : Hid (NumRow w3 w2.heap.size OUT (.slice a4 OUT.length l4)) := hr4; have HB3 : Hid (Below W.heap.size W w3) := HB2.out.trans (hb.mono HB2.out.size); clear hr4 hb))
    clear c1 c2 c3 c4 HC1 HC2
    -- x0
    obtain ⟨g2, c1, c2, c3, c4⟩ := HARG.out w3 HB3.out
    have HC5 : Hid _ := to_term t w3 _ g2 HWT.out
    clear g2
    go_upto_region 7 with (go_at_call 11; refine (Calls.mono HC5.out ?_); rintro e w4 ⟨v5, F5, rfl, o5, f5, n5, b5⟩; obtain ⟨k5, s5, m5, ao5, l5, cp5, rfl⟩ := own_shape o5; have O5 : Hid (Own 29 w4 t (.agg #[.int .i64 k5, .string s5, .int .i64 m5, .slice ao5 l5 cp5]) F5) := o5; have N5 : Hid ((∀ f ∈ F5, w3.heap.size ≤ f) ∧ F5.Nodup) := ⟨f5, n5⟩; have B5 : Hid (Below w3.heap.size w3 w4) := b5; clear o5 f5 n5 b5)
    obtain ⟨W4, hW4⟩ : ∃ W4, W4 = w4.alloc (.cells #[.int .i64 k5, .string s5, .int .i64 m5, .slice ao5 l5 cp5] 29) := ⟨_, rfl⟩
    rw [← hW4]
    have bW4 : Below w4.heap.size w4 W4 := by rw [hW4]; exact (Below.refl _ _).alloc (Nat.le_refl _) _
    have k5b : W4.heap[w4.heap.size]? = some (.cells #[.int .i64 k5, .string s5, .int .i64 m5, .slice ao5 l5 cp5] 29 (0, 0)) := by rw [hW4]; exact heap_alloc_new _ _
    have HB34 : Hid (Below w3.heap.size w3 W4) := B5.out.trans (bW4.mono B5.out.size)
    have O5' : Hid (Own 29 W4 t (.agg #[.int .i64 k5, .string s5, .int .i64 m5, .slice ao5 l5 cp5]) F5) := Own.keep _ _ _ O5.out fun f hf => bW4.block f (Own.lt _ _ _ O5.out f hf)
    have L5 : Hid (∀ f ∈ F5, f < w4.heap.size) := Own.lt _ _ _ O5.out
    have sW4 : W4.heap.size = w4.heap.size + 1 := by rw [hW4]; simp
    have hs34 : w3.heap.size ≤ w4.heap.size := B5.out.size
    obtain ⟨p5, hp5⟩ : ∃ p5, p5 = w4.heap.size := ⟨_, rfl⟩
    rw [← hp5] at k5b sW4 L5 hs34 ⊢
    have K5 : Hid (W4.heap[p5]? = some (.cells #[.int .i64 k5, .string s5, .int .i64 m5, .slice ao5 l5 cp5] 29 (0, 0))) := k5b
    clear hW4 bW4 k5b O5 B5 hp5 c1 c2 c3 c4 HC5
    -- g0
    obtain ⟨e0, e1, e2, e3, _⟩ := blk4 K5.out
    have HC6 : Hid _ := HIV.out W4 _ F5 O5'.out N5.out.2
    go_upto_region 8 with (go_at_call 21; refine (Calls.mono HC6.out ?_); rintro e w5 ⟨vo6, rfl, hr6, b6⟩; obtain ⟨a6, l6, rfl⟩ := hr6.shape; have R6 : Hid (NumRow w5 W4.heap.size OUT (.slice a6 OUT.length l6)) := hr6; have B6 : Hid (Below W4.heap.size W4 w5) := b6; clear hr6 b6)
    clear e0 e1 e2 e3 HC6
    have HALL : Hid (∀ w', Below W4.heap.size W4 w' → Below w3.heap.size w3 w' ∧ NumRow w' w2.heap.size OUT (.slice a4 OUT.length l4) ∧ Own 29 w' t (.agg #[.int .i64 k5, .string s5, .int .i64 m5, .slice ao5 l5 cp5]) F5 ∧ w'.cell? ⟨p5, 0, none⟩ = some (.int .i64 k5) ∧ w'.cell? ⟨p5, 1, none⟩ = some (.string s5) ∧ w'.cell? ⟨p5, 2, none⟩ = some (.int .i64 m5) ∧ w'.cell? ⟨p5, 3, none⟩ = some (.slice ao5 l5 cp5)) := fun w' hb => by
      have h3 := HB34.out.trans (hb.mono HB34.out.size)
      obtain ⟨q0, q1, q2, q3, _⟩ := blk4 ((hb.block p5 (by omega)).trans K5.out)
      exact ⟨h3, R4.out.keep h3, Own.keep _ _ _ O5'.out fun f hf => hb.block f (Own.lt _ _ _ O5'.out f hf), q0, q1, q2, q3⟩
    have HE : Hid _ := eq_ints OUT w5 _ _ _ _ R6.out (HALL.out w5 B6.out).2.1
    go_upto_region 10 with (go_at_call 22; refine (Calls.mono HE.out ?_); rintro e w6 ⟨rfl, b7⟩; have U6 : Hid (Below w5.heap.size w5 w6) := b7; clear b7)
    clear HE
    have B46 : Hid (Below W4.heap.size W4 w6) := B6.out.trans (U6.out.mono B6.out.size)
    -- x0 is as it was
    refine wp_region_facts 4 (fun i v _ w' => match i with
      | 0 => v = .agg #[.int .i64 k5, .string s5, .int .i64 m5, .slice ao5 l5 cp5]
      | 1 => v = .agg #[.int .i64 k, .string s, .int .i64 n, .slice ao len cap]
      | 2 => TmIn w' t v
      | _ => v = .bool true) (by kernel_rfl) (by kernel_rfl) 69 rfl (by kernel_rfl) ?_ ?_ ?_
    · intro i v S w w' hi h hb
      match i, hi, h with
      | 0, _, h => exact h
      | 1, _, h => exact h
      | 2, _, h => exact TmIn.keep hb _ _ h
      | 3, _, h => exact h
    · intro i o hi ho a w' hb hfr hdep
      have hb4 : Below W4.heap.size W4 w' := B46.out.trans (hb.mono B46.out.size)
      obtain ⟨hb3, _, ow5, f0, f1, f2, f3⟩ := HALL.out w' hb4
      obtain ⟨g2, c1, c2, c3, c4⟩ := HARG.out w' (HB3.out.trans (hb3.mono HB3.out.size))
      have u1 : a.tmps.getD 1 undef = .pointer (some ⟨w.heap.size, 0, none⟩) := hfr 1 (by decide)
      have u5 : a.tmps.getD 5 undef = .pointer (some ⟨p5, 0, none⟩) := hfr 5 (by decide)
      match i, hi with
      | 0, _ =>
        obtain rfl : _ = o := by simpa using ho
        refine fact_value (w' := w') (v := .agg #[.int .i64 k5, .string s5, .int .i64 m5, .slice ao5 l5 cp5]) ?_ (Below.refl _ _) ⟨[], rfl, by simp⟩
        simp only [execOp, Act.eval, u5]
        go_simp
      | 1, _ =>
        obtain rfl : _ = o := by simpa using ho
        refine fact_value (w' := w') (v := .agg #[.int .i64 k, .string s, .int .i64 n, .slice ao len cap]) ?_ (Below.refl _ _) ⟨[], rfl, by simp⟩
        simp only [execOp, Act.eval, u1]
        go_simp
      | 2, _ =>
        obtain rfl : _ = o := by simpa using ho
        obtain ⟨_, h0⟩ : ∃ _ : List Nat, a.tmps.getD 28 undef = .agg #[.int .i64 k, .string s, .int .i64 n, .slice ao len cap] := hdep 1 (by kernel_rfl)
        refine fact_call rfl Try.func11 (by kernel_rfl) (by kernel_rfl) (args := #[.agg #[.int .i64 k, .string s, .int .i64 n, .slice ao len cap]]) ?_ ?_
        · simp [Act.eval, h0]
        · refine Calls.mono (to_term t w' _ g2 HWT.out) ?_
          rintro e w4 ⟨v4, F4, rfl, o4, _, _, hb4⟩
          exact ⟨_, rfl, hb4, [], Own.toIn _ _ _ o4, by simp⟩
      | 3, _ =>
        obtain rfl : _ = o := by simpa using ho
        obtain ⟨_, h0⟩ : ∃ _ : List Nat, a.tmps.getD 27 undef = .agg #[.int .i64 k5, .string s5, .int .i64 m5, .slice ao5 l5 cp5] := hdep 0 (by kernel_rfl)
        obtain ⟨_, h2⟩ : ∃ _ : List Nat, TmIn w' t (a.tmps.getD 29 undef) := hdep 2 (by kernel_rfl)
        refine fact_call rfl Try.func13 (by kernel_rfl) (by kernel_rfl) (args := #[.agg #[.int .i64 k5, .string s5, .int .i64 m5, .slice ao5 l5 cp5], a.tmps.getD 29 undef]) ?_ ?_
        · simp [Act.eval, h0]
        · refine Calls.mono (eq_term t w' _ _ (Own.toIn _ _ _ ow5) h2) ?_
          rintro e w4 ⟨rfl, hb4⟩
          exact ⟨_, rfl, hb4, [], rfl, by simp⟩
    intro vals S w7 hb hf _
    have h3 : vals 3 = .bool true := (hf 3 (by omega)).1
    have B47 : Hid (Below W4.heap.size W4 w7) := B46.out.trans (hb.mono B46.out.size)
    have U57 : Hid (Below w5.heap.size w5 w7) := U6.out.trans (hb.mono U6.out.size)
    simp only [putN, List.getElem?_toArray, List.getElem?_cons_zero, List.getElem?_cons_succ, Option.bind_some, List.drop_succ_cons, List.drop_zero, h3]
    generalize vals 0 = v27
    generalize vals 1 = v28
    generalize vals 2 = v29
    clear hf h3 hb U6 B46
    go_upto_region 13 with fail
    -- what is written into x0 is not in g0
    obtain ⟨_, _, ow5, b0, b1, b2, b3⟩ := HALL.out w7 B47.out
    have HK := mark_term t w7 _ F5 1 ow5 N5.out.2 (by omega) (by have := HNT.out.2; omega)
    have hn1 : ¬ ((1 + 3 * ns t.kids : Nat) : Int) < 0 := by omega
    generalize 1 + 3 * ns t.kids = nx1 at HK hn1
    replace HK : Hid _ := HK
    clear ow5
    go_upto_region 14 with (go_at_call 23; refine (Calls.mono HK.out ?_); rintro e w8 ⟨rfl, _, u⟩; have U8 : Hid (Out F5 w7 w8) := u; clear u)
    clear b0 b1 b2 b3 HK
    have B38 : Hid (Below w3.heap.size w3 w8) := by
      have h1 := (HALL.out w7 B47.out).1
      exact h1.trans (U8.out.below (fun f hf => N5.out.1 f hf) h1.size)
    have R6b : Hid (NumRow w8 W4.heap.size OUT (.slice a6 OUT.length l6)) := (R6.out.keep U57.out).turn fun b hb => by
      have h1 := (R6.out.keep U57.out).lt hb
      exact U8.out.block b h1.2 fun hf => by have := L5.out b hf; omega
    have HE : Hid _ := eq_ints OUT w8 _ _ _ _ R6b.out (R4.out.keep B38.out)
    go_upto_region 17 with (go_at_call 22; refine (Calls.mono HE.out ?_); rintro e w9 ⟨rfl, b9⟩; have U9 : Hid (Below w8.heap.size w8 w9) := b9; clear b9)
    clear HE
    -- g0 owns its memory
    have R6c : Hid (NumRow w9 W4.heap.size OUT (.slice a6 OUT.length l6)) := R6b.out.keep U9.out
    have HK := mark_ints OUT w9 _ 1 _ R6c.out (by have := HOL.out; omega)
    have HHD : Hid (∀ w', NumRow w' W4.heap.size (marksN 1 OUT.length) (.slice a6 OUT.length l6) → Calls Try.prog 25 #[.slice a6 OUT.length l6, .int .i64 ((1 : Nat) : Int)] w' fun e w2 => e = .returned (.int .i64 ((1 + OUT.length : Nat) : Int)) ∧ w2 = w') := fun w' h => held_ints OUT.length w' _ 1 _ h (by have := HOL.out; omega)
    have hn3 : ¬ ((1 + OUT.length : Nat) : Int) < 0 := by omega
    generalize 1 + OUT.length = nx3 at HK HHD hn3
    replace HK : Hid _ := HK
    go_upto_region 19 with (go_at_call 24; refine (Calls.mono HK.out ?_); rintro e w10 ⟨rfl, r10, u10⟩; have R10 : Hid (NumRow w10 W4.heap.size (marksN 1 OUT.length) (.slice a6 OUT.length l6)) := r10; have U10 : Hid (Out (Value.ownBlock (.slice a6 OUT.length l6)).toList w9 w10) := u10; clear r10 u10)
    clear HK
    have B310 : Hid (Below w3.heap.size w3 w10) := by
      have h1 := B38.out.trans (U9.out.mono B38.out.size)
      have h2 := HB34.out.size
      refine h1.trans (U10.out.below (fun f hf => ?_) h1.size)
      cases e : Value.ownBlock (.slice a6 OUT.length l6) with
      | none => rw [e] at hf; cases hf
      | some b => rw [e] at hf; simp at hf; subst hf; have := (R6c.out.lt e).1; omega
    have HK : Hid _ := HHD.out w10 R10.out
    go_upto_region 24 with (go_at_call 25; refine (Calls.mono HK.out ?_); rintro e w11 ⟨rfl, he⟩; rw [he]; clear he)
    clear HK
    -- once more
    obtain ⟨g2, c1, c2, c3, c4⟩ := HARG.out w10 (HB3.out.trans (B310.out.mono HB3.out.size))
    have HC1 : Hid _ := to_term t w10 _ g2 HWT.out
    clear g2
    go_upto_region 25 with (first
      | (go_at_call 11; refine (Calls.mono HC1.out ?_); rintro e w12 ⟨v1, F1, rfl, o1, _, n1, hb⟩; obtain ⟨kb, sb, nb, aob, lb, cb, rfl⟩ := own_shape o1; have B12 : Hid (Below w10.heap.size w10 w12) := hb; have HC2 : Hid _ := HIV.out w12 _ F1 o1 n1; clear o1 hb n1)
      | (go_at_call 21; refine (Calls.mono HC2.out ?_); rintro e w13 ⟨vo9, rfl, hr9, hb⟩; obtain ⟨a9, l9, rfl⟩ := hr9.shape; have R9 : Hid (NumRow w13 w12.heap.size OUT (.slice a9 OUT.length l9)) := hr9; have B13 : Hid (Below w10.heap.size w10 w13) := B12.out.trans (hb.mono B12.out.size); clear hr9 hb))
    clear c1 c2 c3 c4 HC1 HC2
    have B313 : Hid (Below w3.heap.size w3 w13) := B310.out.trans (B13.out.mono B310.out.size)
    have HE : Hid _ := eq_ints OUT w13 _ _ _ _ R9.out (R4.out.keep B313.out)
    go_upto_region 28 with (go_at_call 22; refine (Calls.mono HE.out ?_); rintro e w14 ⟨rfl, b9⟩; have B14 : Hid (Below w10.heap.size w10 w14) := B13.out.trans (b9.mono B13.out.size); clear b9)
    clear HE
    have HK : Hid _ := HHD.out w14 (R10.out.keep B14.out)
    have HEND : Hid (Below w.heap.size w w14) := by
      have h1 := B310.out.trans (B14.out.mono B310.out.size)
      have h2 := HB3.out.trans (h1.mono HB3.out.size)
      exact HBW.out.trans (h2.mono HBW.out.size)
    go_wp2_with (go_at_call 25; refine (Calls.mono HK.out ?_); rintro e w15 ⟨rfl, he⟩; rw [he]; clear he)
    go_ret
    exact ⟨rfl, HEND.out⟩
  · rw [show szR t.wt 1048576 = -1 from if_neg hwt, hW] at HSZ
    replace HSZ : Hid _ := HSZ
    go_enter Try.func7, Try.ntmps7
    go_wp2_with (go_at_call 9; refine (Calls.mono HSZ.out ?_); rintro e w1 ⟨rfl, hb⟩; rw [← hW] at hb; have HB : Hid (Below w.heap.size w w1) := HBW.out.trans (hb.mono HBW.out.size); clear hb)
    go_ret
    exact ⟨rfl, HB.out⟩

theorem own : ownKnob Try.prog.godebug = none := by kernel_rfl
set_option maxRecDepth 100000 in
theorem lifted (os : Os) (started : os.Started) (H : Type) (enc : TypeId × Value → H) :
    ReturnsInHanded {} Try.checked os 7 .any (Rows.fnExactVarsOfSpec.pre6 enc Try.prog Try.f7 Rows.fnExactVarsOfRow.domain false) (Rows.fnExactVarsOfSpec.post enc Try.prog Try.f7 false true false false) := by
  refine returnsInHanded_of_change (C := Try.checked) own started (by kernel_rfl) Try.func7
    (ChangeSpec.witness6 (enc := enc) (C := Try.checked) false ⟨#[], #[.agg #[.int .i64 0, .string .empty, .int .i64 0, .slice none 0 0]], []⟩ 8 (by kernel_rfl) (by kernel_rfl) (by kernel_rfl) (by kernel_rfl)) ?_
  intro W base args ds gs before hval0 hW hcnd _
  have hval : ∀ (j : Nat) t v, Try.f7.params[j]? = some t → args[j]? = some v → Value.okWide Try.prog W .any base t v := hval0
  have hW' := hW
  have hlt := hW.lt
  obtain ⟨p, q, hA0, hV, rfl, hfz, hnd⟩ := hW
  have hA : DataW.TrodAll enc Try.prog W 0 (fun _ => true) true Try.f7.params.toList args.toList ds p := hA0
  rw [Try.params7] at hA hval
  obtain ⟨v0, vs0, d0, ds0, p0, q0, hargs, rfl, rfl, h0, r0⟩ := trodAll_cons hA
  obtain ⟨rfl, rfl, rfl⟩ := trodAll_nil r0
  obtain rfl : args = #[v0] := by cases args; simp_all
  obtain ⟨rfl, rfl⟩ := trodVars_none hV
  obtain ⟨t0, hin0⟩ := tm_split (hval 0 24 v0 rfl rfl) h0
  clear hA0 hval0
  refine (walk t0 v0 W hin0).mono fun e W' ⟨he, bel⟩ => ?_
  subst he
  exact ⟨_, rfl, _, _, _, [], _, [], hW', trodAll_mk1 (shut_bool Try.underlying4 _), (trodAll_cons_mk (Below.trod laidOutT readsTm rowTm h0 bel (fun x hx => hlt x (by simp [hx]))) trodAll_mk0), rfl, bel.frame _, fun h => by cases h⟩

theorem over : Rows.fnExactVarsOfRow.holds Try.pinned (OpenSpec.ofChange Rows.fnExactVarsOfSpec) :=
  OpenClaim.holds_of_wide 7 Try.f7 rfl rfl rfl rfl rfl rfl rfl ⟨rfl, rfl, rfl, rfl, rfl⟩ rfl rfl rfl rfl rfl (by kernel_rfl) Try.func7 (by kernel_rfl)
    (of_decide_eq_true (by kernel_rfl)) (by unfold Func.isWrapper; first | (rw [if_pos (by decide +kernel)]; kernel_rfl) | (rw [if_neg (by decide +kernel)]; exact ⟨rfl, rfl⟩))
    (fun os started H enc _ => lifted os started H enc)

theorem proved : Rows.FnExactVarsOfSaid := over
#print axioms proved
end Go.Proofs.Ytdcphfcenaafbal.fnExactVarsOf
