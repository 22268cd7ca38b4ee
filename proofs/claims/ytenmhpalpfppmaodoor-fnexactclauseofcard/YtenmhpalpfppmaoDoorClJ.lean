/- impl.ClauseOf. -/
import Derived.Test.YtenmhpalpfppmaoDoorMrg4
import Derived.Test.YtenmhpalpfppmaoDoorClI
import Derived.Test.YtenmhpalpfppmaoDoorHabI
import Derived.Test.YtenmhpalpfppmaoDoorMayI
import Derived.Test.YtenmhpalpfppmaoDoorPredI
import Derived.Test.YtenmhpalpfppmaoDoorNewCop
import Derived.Test.YtenmhpalpfppmaoDoorMrg9
namespace Go.Proofs.YtenmhpalpfppmaoDoor
open Go.RowKit

set_option maxHeartbeats 4000000 in
set_option maxRecDepth 20000 in
theorem i_clauseOf (t : Tm) (f : ByteArray) (v : Value) (w : World) (hin : TmIn w t v) (hf : f.size ≤ 1048576) (htab : Lib.TabIs Tryd.prog w "internal/strconv.uint64pow10" .u64 Lib.pow10Tab) :
    Calls Tryd.prog 14 #[v, .string f] w (ClOut 31 (clH t) (clBd t) (clF t f) (clB t) w) := by
  obtain ⟨k, s, n, ao, l, cap, rfl⟩ := tm_shape hin
  obtain ⟨W, hW⟩ : ∃ W, W = (w.alloc (.cells #[.int .i64 k, .string s, .int .i64 n, .slice ao l cap] 31)).alloc (.cells #[.int .i64 0, .string ⟨#[]⟩, .int .i64 0, .slice none 0 0, .int .i64 0, .string ⟨#[]⟩, .int .i64 0, .slice none 0 0, .string ⟨#[]⟩] 36) := ⟨_, rfl⟩
  have bW : Below w.heap.size w W := by rw [hW]; exact ((Below.refl _ _).alloc (Nat.le_refl _) _).alloc (by simp) _
  have lW : W.heap.size = w.heap.size + 2 := by rw [hW]; simp
  have k1 : W.heap[w.heap.size]? = some (.cells #[.int .i64 k, .string s, .int .i64 n, .slice ao l cap] 31 (0, 0)) := by rw [hW]; exact (alloc_old _ _ (by simp)).trans (alloc_at _ _ rfl)
  have k2 : W.heap[w.heap.size + 1]? = some (.cells #[.int .i64 0, .string ⟨#[]⟩, .int .i64 0, .slice none 0 0, .int .i64 0, .string ⟨#[]⟩, .int .i64 0, .slice none 0 0, .string ⟨#[]⟩] 36 (0, 0)) := by rw [hW]; exact alloc_at _ _ (by simp)
  have HK : Hid (∀ w1, Below W.heap.size W w1 → w1.heap[w.heap.size]? = some (.cells #[.int .i64 k, .string s, .int .i64 n, .slice ao l cap] 31 (0, 0)) ∧ w1.heap[w.heap.size + 1]? = some (.cells #[.int .i64 0, .string ⟨#[]⟩, .int .i64 0, .slice none 0 0, .int .i64 0, .string ⟨#[]⟩, .int .i64 0, .slice none 0 0, .string ⟨#[]⟩] 36 (0, 0))) := fun w1 hb => ⟨(hb.block _ (by omega)).trans k1, (hb.block _ (by omega)).trans k2⟩
  have HIN : Hid (∀ w1, Below W.heap.size W w1 → TmIn w1 t (.agg #[.int .i64 k, .string s, .int .i64 n, .slice ao l cap])) := fun w1 hb => TmIn.keep hb _ _ (TmIn.keep bW _ _ hin)
  have HT : Hid (∀ w1, Below W.heap.size W w1 → Lib.TabIs Tryd.prog w1 "internal/strconv.uint64pow10" .u64 Lib.pow10Tab) := fun w1 hb => pow_keep (pow_keep htab bW) hb
  have HOK0 := implOk t W _ (TmIn.keep bW _ _ hin)
  have HMAY : Hid (∀ p w1, Calls Tryd.prog 31 #[.string p] w1 fun e w' => e = .returned (.bool (mayB p)) ∧ Below w1.heap.size w1 w') := fun p w1 => i_may p w1
  have HNC : Hid (∀ w1, Calls Tryd.prog 33 #[] w1 fun e w' => e = .returned (.pointer (some ⟨w1.heap.size + 1, 0, none⟩)) ∧ w'.heap[w1.heap.size + 1]? = some (.cells #[.map (some w1.heap.size), .int .i64 0, .slice none 0 0] 84 (0, 0)) ∧ w'.heap[w1.heap.size]? = some (.map #[] 0) ∧ w'.heap.size = w1.heap.size + 2 ∧ Below w1.heap.size w1 w') := fun w1 => new_copier w1
  have HBW : Hid (Below w.heap.size w W) := bW
  have HL : Hid (W.heap.size = w.heap.size + 2) := lW
  have HF : Hid (f.size ≤ 1048576) := hf
  have hz9 : ∀ d0 d1 d2 d3 d4 d5 d6 d7 d8 w1, Below W.heap.size W w1 → (set9 w1 (w.heap.size + 1) d0 d1 d2 d3 d4 d5 d6 d7 d8).heap[w.heap.size + 1]? = some (.cells #[d0, d1, d2, d3, d4, d5, d6, d7, d8] 36 (0, 0)) ∧ Below w.heap.size w (set9 w1 (w.heap.size + 1) d0 d1 d2 d3 d4 d5 d6 d7 d8) := fun d0 d1 d2 d3 d4 d5 d6 d7 d8 w1 hb =>
    ⟨blk9_set (HK.out w1 hb).2, blk9_below (bW.trans (hb.mono bW.size)) (by omega)⟩
  have HZ9 : Hid _ := hz9
  have hno : clB t = false → ∀ w1, Below W.heap.size W w1 → ClOut 31 (clH t) (clBd t) (clF t f) (clB t) w (.returned (.tuple #[.agg #[.int .i64 0, .string ⟨#[]⟩, .int .i64 0, .slice none 0 0, .int .i64 0, .string ⟨#[]⟩, .int .i64 0, .slice none 0 0, .string ⟨#[]⟩], .bool false])) (set9 w1 (w.heap.size + 1) (.int .i64 0) (.string ⟨#[]⟩) (.int .i64 0) (.slice none 0 0) (.int .i64 0) (.string ⟨#[]⟩) (.int .i64 0) (.slice none 0 0) (.string ⟨#[]⟩)) := fun hc w1 hb => by
    have e1 : clH t = zeroC := by unfold clH; rw [hc]; rfl
    have e2 : clBd t = zeroC := by unfold clBd; rw [hc]; rfl
    have e3 : clF t f = ⟨#[]⟩ := by unfold clF; rw [hc]; rfl
    rw [e1, e2, e3, hc]
    exact ⟨_, _, _, _, _, _, _, _, _, _, _, _, [], [], rfl, own_zero _ _, own_zero _ _, by simp, by simp, List.nodup_nil, List.nodup_nil, by simp, (hz9 _ _ _ _ _ _ _ _ _ w1 hb).2⟩
  have HNO : Hid (clB t = false → ∀ w1, Below W.heap.size W w1 → ClOut 31 (clH t) (clBd t) (clF t f) (clB t) w (.returned (.tuple #[.agg #[.int .i64 0, .string ⟨#[]⟩, .int .i64 0, .slice none 0 0, .int .i64 0, .string ⟨#[]⟩, .int .i64 0, .slice none 0 0, .string ⟨#[]⟩], .bool false])) (set9 w1 (w.heap.size + 1) (.int .i64 0) (.string ⟨#[]⟩) (.int .i64 0) (.slice none 0 0) (.int .i64 0) (.string ⟨#[]⟩) (.int .i64 0) (.slice none 0 0) (.string ⟨#[]⟩))) := hno
  clear hin htab bW lW k1 k2 hf hz9 hno
  cases hok : t.ok with
  | false =>
    have HCB : Hid (clB t = false) := by show _ = _; unfold clB; rw [hok]; rfl
    rw [hok, hW] at HOK0
    have HOK : Hid _ := HOK0
    clear HOK0 hok
    go_enter Tryd.func14, Tryd.ntmps14
    go_upto_region 2 with (go_at_call 29; refine (Calls.mono HOK.out ?_); rintro e w1 ⟨rfl, hb⟩; rw [← hW] at hb; have HB1 : Hid (Below W.heap.size W w1) := hb; clear hb)
    have hz := (HK.out w1 HB1.out).2
    obtain ⟨⟨c0, c1, c2, c3, c4, c5, c6, c7, c8⟩, g0, g1, g2, g3, g4, g5, g6, g7, g8⟩ := blk9 hz
    clear hz hW
    go_wp2
    refine bodyPost_ret_by (results_ctx rfl _ _ (w.heap.size + 1) 36 _ (0, 0) _ rfl (HZ9.out _ _ _ _ _ _ _ _ _ w1 HB1.out).1 Tryd.underlying36 rfl (by kernel_rfl)) rfl ?_
    exact HNO.out HCB.out w1 HB1.out
  | true =>
    have HOKT : Hid (t.ok = true) := hok
    rw [hok, hW] at HOK0
    have HOK : Hid _ := HOK0
    clear HOK0 hok
    go_enter Tryd.func14, Tryd.ntmps14
    go_upto_region 3 with (go_at_call 29; refine (Calls.mono HOK.out ?_); rintro e w1 ⟨rfl, hb⟩; rw [← hW] at hb; have HB1 : Hid (Below W.heap.size W w1) := hb; clear hb)
    obtain ⟨q0, q1, q2, q3, _⟩ := blk4 (HK.out w1 HB1.out).1
    clear hW
    have HHB : Hid _ := i_hab t _ w1 (HIN.out w1 HB1.out)
    unfold HabOut at HHB
    go_upto_region 4 with (go_at_call 30; refine (Calls.mono HHB.out ?_); rintro e w2 ⟨k1, s1, n1, a1, l1, c1, k2, s2, n2, a2, l2, c2, rfl, th, tb, hb⟩; have HTH : Hid _ := th; have HTB : Hid _ := tb; have HB2 : Hid (Below W.heap.size W w2) := HB1.out.trans (hb.mono HB1.out.size); clear th tb hb)
    clear q0 q1 q2 q3
    obtain ⟨V, hV⟩ : ∃ V, V = (w2.alloc (.cells #[.int .i64 k1, .string s1, .int .i64 n1, .slice a1 l1 c1] 31)).alloc (.cells #[.int .i64 k2, .string s2, .int .i64 n2, .slice a2 l2 c2] 31) := ⟨_, rfl⟩
    rw [← hV]
    have b2V : Below w2.heap.size w2 V := by rw [hV]; exact ((Below.refl _ _).alloc (Nat.le_refl _) _).alloc (by simp) _
    have HBV : Hid (Below W.heap.size W V) := HB2.out.trans (b2V.mono HB2.out.size)
    have v1 : V.heap[w2.heap.size]? = some (.cells #[.int .i64 k1, .string s1, .int .i64 n1, .slice a1 l1 c1] 31 (0, 0)) := by rw [hV]; exact (alloc_old _ _ (by simp)).trans (alloc_at _ _ rfl)
    have v2 : V.heap[w2.heap.size + 1]? = some (.cells #[.int .i64 k2, .string s2, .int .i64 n2, .slice a2 l2 c2] 31 (0, 0)) := by rw [hV]; exact alloc_at _ _ (by simp)
    have tH : TmIn V (cutC t).1 (.agg #[.int .i64 k1, .string s1, .int .i64 n1, .slice a1 l1 c1]) := TmIn.keep b2V _ _ HTH.out
    have tB : TmIn V (cutC t).2 (.agg #[.int .i64 k2, .string s2, .int .i64 n2, .slice a2 l2 c2]) := TmIn.keep b2V _ _ HTB.out
    obtain ⟨bh, hbh⟩ : ∃ bh, bh = w2.heap.size := ⟨_, rfl⟩
    rw [← hbh] at v1 v2 ⊢
    obtain ⟨bb, hbb⟩ : ∃ bb, bb = bh + 1 := ⟨_, rfl⟩
    rw [← hbb] at v2 ⊢
    have HVK0 : Hid (∀ w1, Below V.heap.size V w1 → w1.heap[bh]? = some (.cells #[.int .i64 k1, .string s1, .int .i64 n1, .slice a1 l1 c1] 31 (0, 0)) ∧ w1.heap[bb]? = some (.cells #[.int .i64 k2, .string s2, .int .i64 n2, .slice a2 l2 c2] 31 (0, 0)) ∧ TmIn w1 (cutC t).1 (.agg #[.int .i64 k1, .string s1, .int .i64 n1, .slice a1 l1 c1]) ∧ TmIn w1 (cutC t).2 (.agg #[.int .i64 k2, .string s2, .int .i64 n2, .slice a2 l2 c2])) := fun w1 hb => ⟨below_hp hb v1, below_hp hb v2, TmIn.keep hb _ _ tH, TmIn.keep hb _ _ tB⟩
    have hcut := cut_ok HOKT.out
    have HPR0 := i_pred (cutC t).1 V _ tH (by have := ok_wt hcut.1; omega) (HT.out V HBV.out)
    obtain ⟨H, hH⟩ : ∃ H, H = (cutC t).1 := ⟨_, rfl⟩
    obtain ⟨B, hB⟩ : ∃ B, B = (cutC t).2 := ⟨_, rfl⟩
    have HHB2 : Hid (H = (cutC t).1 ∧ B = (cutC t).2 ∧ H.ok = true ∧ B.ok = true) := ⟨hH, hB, by rw [hH]; exact hcut.1, by rw [hB]; exact hcut.2⟩
    rw [← hH, ← hB] at HVK0
    rw [← hH] at HPR0
    obtain ⟨pr, hpr⟩ : ∃ pr, pr = predB H := ⟨_, rfl⟩
    rw [← hpr] at HPR0
    have HPRD : Hid (pr = predB H) := hpr
    have HPR : Hid _ := HPR0
    have HVK : Hid _ := HVK0.out
    have HMB0 := HMAY.out pr
    obtain ⟨x0, x1, x2, x3, _⟩ := blk4 v1
    clear hV b2V v1 v2 tH tB hbh hbb hcut hH hB hpr HTH HTB HPR0 HVK0 HHB HB2
    cases hmb : mayB pr with
    | false =>
      rw [hmb] at HMB0
      have HMB : Hid _ := HMB0
      have HCB : Hid (clB t = false) := by show _ = _; unfold clB; rw [HOKT.out, ← HHB2.out.1, ← HPRD.out, hmb]; rfl
      clear HMB0 hmb
      go_upto_region 5 with (first
        | (go_at_call 11; refine (Calls.mono HPR.out ?_); rintro e w4 ⟨rfl, hb⟩; have HB4 : Hid (Below V.heap.size V w4) := hb; clear hb)
        | (go_at_call 31; refine (Calls.mono (HMB.out _) ?_); rintro e w5 ⟨rfl, hb⟩; have HB5 : Hid (Below V.heap.size V w5) := HB4.out.trans (hb.mono HB4.out.size); clear hb))
      have HBW5 : Hid (Below W.heap.size W w5) := HBV.out.trans (HB5.out.mono HBV.out.size)
      have hz := (HK.out w5 HBW5.out).2
      obtain ⟨⟨c0, c1, c2, c3, c4, c5, c6, c7, c8⟩, g0, g1, g2, g3, g4, g5, g6, g7, g8⟩ := blk9 hz
      clear hz x0 x1 x2 x3
      go_wp2
      refine bodyPost_ret_by (results_ctx rfl _ _ (w.heap.size + 1) 36 _ (0, 0) _ rfl (HZ9.out _ _ _ _ _ _ _ _ _ w5 HBW5.out).1 Tryd.underlying36 rfl (by kernel_rfl)) rfl ?_
      exact HNO.out HCB.out w5 HBW5.out
    | true =>
      rw [hmb] at HMB0
      have HMB : Hid _ := HMB0
      have HCB : Hid (clB t = true) := by show _ = _; unfold clB; rw [HOKT.out, ← HHB2.out.1, ← HPRD.out, hmb]; rfl
      clear HMB0 hmb
      go_upto_region 6 with (first
        | (go_at_call 11; refine (Calls.mono HPR.out ?_); rintro e w4 ⟨rfl, hb⟩; have HB4 : Hid (Below V.heap.size V w4) := hb; clear hb)
        | (go_at_call 31; refine (Calls.mono (HMB.out _) ?_); rintro e w5 ⟨rfl, hb⟩; have HB5 : Hid (Below V.heap.size V w5) := HB4.out.trans (hb.mono HB4.out.size); clear hb))
      have HBW5 : Hid (Below W.heap.size W w5) := HBV.out.trans (HB5.out.mono HBV.out.size)
      clear x0 x1 x2 x3
      have HVK5 : Hid (∀ w1, Below w5.heap.size w5 w1 → _) := fun w1 hb => HVK.out w1 (HB5.out.trans (hb.mono HB5.out.size))
      have HCC : Hid (∀ g w1, Below w5.heap.size w5 w1 → Calls Tryd.prog 32 #[.pointer (some ⟨g, 0, none⟩), .agg #[.int .i64 k1, .string s1, .int .i64 n1, .slice a1 l1 c1, .int .i64 k2, .string s2, .int .i64 n2, .slice a2 l2 c2, .string f]] w1 fun e w' => ∃ k s n ao l c k' s' n' ao' l' c' F G, e = .returned (.agg #[.int .i64 k, .string s, .int .i64 n, .slice ao l c, .int .i64 k', .string s', .int .i64 n', .slice ao' l' c', .string f]) ∧ Own 31 w' H (.agg #[.int .i64 k, .string s, .int .i64 n, .slice ao l c]) F ∧ Own 31 w' B (.agg #[.int .i64 k', .string s', .int .i64 n', .slice ao' l' c']) G ∧
          (∀ x ∈ F, w1.heap.size ≤ x) ∧ (∀ x ∈ G, w1.heap.size ≤ x) ∧ F.Nodup ∧ G.Nodup ∧ (∀ x ∈ G, x ∉ F) ∧ Below w1.heap.size w1 w') := fun g w1 hb => copied_clause H B f w1 g _ _ _ _ _ _ _ _ _ _ _ _ (HVK5.out w1 hb).2.2.1 (HVK5.out w1 hb).2.2.2 HHB2.out.2.2.1 HHB2.out.2.2.2 HF.out
      refine wp_region_facts 6 (fun i v S w' => match i with
        | 0 => ∃ g, v = .pointer (some ⟨g, 0, none⟩)
        | 1 => v = (.agg #[.int .i64 k1, .string s1, .int .i64 n1, .slice a1 l1 c1])
        | 2 => v = (.agg #[.int .i64 k2, .string s2, .int .i64 n2, .slice a2 l2 c2])
        | 3 => v = (.string f)
        | 4 => v = (.agg #[.int .i64 k1, .string s1, .int .i64 n1, .slice a1 l1 c1, .int .i64 k2, .string s2, .int .i64 n2, .slice a2 l2 c2, .string f])
        | _ => ∃ k5 s5 n5 a5 l5 c5 k6 s6 n6 a6 l6 c6 F G, v = .agg #[.int .i64 k5, .string s5, .int .i64 n5, .slice a5 l5 c5, .int .i64 k6, .string s6, .int .i64 n6, .slice a6 l6 c6, .string f] ∧ Own 31 w' H (.agg #[.int .i64 k5, .string s5, .int .i64 n5, .slice a5 l5 c5]) F ∧ Own 31 w' B (.agg #[.int .i64 k6, .string s6, .int .i64 n6, .slice a6 l6 c6]) G ∧ F.Nodup ∧ G.Nodup ∧ (∀ x ∈ G, x ∉ F) ∧ (∀ x ∈ F, w5.heap.size ≤ x) ∧ (∀ x ∈ G, w5.heap.size ≤ x)) (by kernel_rfl) (by kernel_rfl) 28 rfl (by kernel_rfl) ?_ ?_ ?_
      · intro i v S w w' hi h hb
        match i, hi, h with
        | 0, _, h => exact h
        | 1, _, h => exact h
        | 2, _, h => exact h
        | 3, _, h => exact h
        | 4, _, h => exact h
        | 5, _, ⟨k5, s5, n5, a5, l5, c5, k6, s6, n6, a6, l6, c6, F, G, h1, h2, h3, h4⟩ => exact ⟨k5, s5, n5, a5, l5, c5, k6, s6, n6, a6, l6, c6, F, G, h1, Own.keep _ _ _ h2 fun x hx => hb.block x (Own.lt _ _ _ h2 x hx), Own.keep _ _ _ h3 fun x hx => hb.block x (Own.lt _ _ _ h3 x hx), h4⟩
      · intro i o hi ho a w' hb hfr hdep
        obtain ⟨x0, x1, x2, x3, _⟩ := blk4 (HVK5.out w' hb).1
        obtain ⟨y0, y1, y2, y3, _⟩ := blk4 (HVK5.out w' hb).2.1
        have u1 : a.tmps.getD 1 undef = (.string f) := hfr 1 (by decide)
        have u6 : a.tmps.getD 6 undef = (.pointer (some ⟨bh, 0, none⟩)) := hfr 6 (by decide)
        have u7 : a.tmps.getD 7 undef = (.pointer (some ⟨bb, 0, none⟩)) := hfr 7 (by decide)
        match i, hi with
        | 0, _ =>
          obtain rfl : _ = o := by simpa using ho
          refine fact_call rfl Tryd.func33 (by kernel_rfl) (by kernel_rfl) (args := #[]) ?_ ?_
          · simp
          · refine Calls.mono (HNC.out w') ?_
            rintro e w4 ⟨rfl, _, _, _, hb4⟩
            exact ⟨_, rfl, hb4, [], ⟨_, rfl⟩, by simp⟩
        | 1, _ =>
          obtain rfl : _ = o := by simpa using ho
          refine fact_value (w' := w') (v := (.agg #[.int .i64 k1, .string s1, .int .i64 n1, .slice a1 l1 c1])) ?_ (Below.refl _ _) ⟨[], rfl, by simp⟩
          simp only [execOp, Act.eval, u6]
          go_simp
        | 2, _ =>
          obtain rfl : _ = o := by simpa using ho
          refine fact_value (w' := w') (v := (.agg #[.int .i64 k2, .string s2, .int .i64 n2, .slice a2 l2 c2])) ?_ (Below.refl _ _) ⟨[], rfl, by simp⟩
          simp only [execOp, Act.eval, u7]
          go_simp
        | 3, _ =>
          obtain rfl : _ = o := by simpa using ho
          refine fact_value (w' := w') (v := (.string f)) ?_ (Below.refl _ _) ⟨[], rfl, by simp⟩
          simp only [execOp, Act.eval, u1]
          go_simp
        | 4, _ =>
          obtain rfl : _ = o := by simpa using ho
          obtain ⟨_, h1⟩ : ∃ _ : List Nat, a.tmps.getD 23 undef = (.agg #[.int .i64 k1, .string s1, .int .i64 n1, .slice a1 l1 c1]) := hdep 1 (by kernel_rfl)
          obtain ⟨_, h2⟩ : ∃ _ : List Nat, a.tmps.getD 24 undef = (.agg #[.int .i64 k2, .string s2, .int .i64 n2, .slice a2 l2 c2]) := hdep 2 (by kernel_rfl)
          obtain ⟨_, h3⟩ : ∃ _ : List Nat, a.tmps.getD 25 undef = (.string f) := hdep 3 (by kernel_rfl)
          have e9 : (#[((0 : Nat), Operand.tmp 23), (1, Operand.tmp 24), (2, Operand.tmp 25)].map fun x => (x.1, a.eval x.2)) = #[(0, .agg #[.int .i64 k1, .string s1, .int .i64 n1, .slice a1 l1 c1]), (1, .agg #[.int .i64 k2, .string s2, .int .i64 n2, .slice a2 l2 c2]), (2, .string f)] := by
            have e1 := h1
            have e2 := h2
            have e3 := h3
            simp [Act.eval]
            exact ⟨by simpa using e1, by simpa using e2, by simpa using e3⟩
          refine fact_value (w' := w') (v := .agg #[.int .i64 k1, .string s1, .int .i64 n1, .slice a1 l1 c1, .int .i64 k2, .string s2, .int .i64 n2, .slice a2 l2 c2, .string f]) ?_ (Below.refl _ _) ⟨[], rfl, by simp⟩
          clear hdep hfr ho
          simp only [execOp, e9]
          go_simp
        | 5, _ =>
          obtain rfl : _ = o := by simpa using ho
          obtain ⟨_, g, hg0⟩ : ∃ S : List Nat, ∃ g, a.tmps.getD 22 undef = .pointer (some ⟨g, 0, none⟩) := hdep 0 (by kernel_rfl)
          obtain ⟨_, h4⟩ : ∃ _ : List Nat, a.tmps.getD 26 undef = (.agg #[.int .i64 k1, .string s1, .int .i64 n1, .slice a1 l1 c1, .int .i64 k2, .string s2, .int .i64 n2, .slice a2 l2 c2, .string f]) := hdep 4 (by kernel_rfl)
          refine fact_call rfl Tryd.func32 (by kernel_rfl) (by kernel_rfl) (args := #[.pointer (some ⟨g, 0, none⟩), .agg #[.int .i64 k1, .string s1, .int .i64 n1, .slice a1 l1 c1, .int .i64 k2, .string s2, .int .i64 n2, .slice a2 l2 c2, .string f]]) ?_ ?_
          · simp [Act.eval, h4]; simpa using hg0
          · refine Calls.mono (HCC.out g w' hb) ?_
            rintro e w4 ⟨k5, s5, n5, a5, l5, c5, k6, s6, n6, a6, l6, c6, F, G, rfl, o1, o2, f1, f2, d1, d2, d3, hb4⟩
            have hs := hb.size
            exact ⟨_, rfl, hb4, [], ⟨_, _, _, _, _, _, _, _, _, _, _, _, F, G, rfl, o1, o2, d1, d2, d3, fun x hx => by have := f1 x hx; omega, fun x hx => by have := f2 x hx; omega⟩, by simp⟩
      intro vals S w6 hb hf _
      obtain ⟨k5, s5, n5, a5, l5, c5, k6, s6, n6, a6, l6, c6, F, G, e5, o1, o2, d1, d2, d3, f1, f2⟩ := (hf 5 (by omega)).1
      simp only [putN, List.getElem?_toArray, List.getElem?_cons_zero, List.getElem?_cons_succ, Option.bind_some, List.drop_succ_cons, List.drop_zero, e5]
      generalize vals 0 = m0
      generalize vals 1 = m1
      generalize vals 2 = m2
      generalize vals 3 = m3
      generalize vals 4 = m4
      simp only [Act.put, List.setIfInBounds_toArray, List.set_cons_succ, List.set_cons_zero]
      have HB6 : Hid (Below W.heap.size W w6) := HBW5.out.trans (hb.mono HBW5.out.size)
      have hz := (HK.out w6 HB6.out).2
      have HFIN : Hid (∀ d0 d1 d2 d3 d4 d5 d6 d7 d8, ClOut 31 H B f true w (.returned (.tuple #[.agg #[.int .i64 k5, .string s5, .int .i64 n5, .slice a5 l5 c5, .int .i64 k6, .string s6, .int .i64 n6, .slice a6 l6 c6, .string f], .bool true])) (set9 w6 (w.heap.size + 1) d0 d1 d2 d3 d4 d5 d6 d7 d8)) := fun d0 d1' d2' d3' d4 d5 d6 d7 d8 => by
        have hlt := HBW5.out.size
        have hl := HL.out
        exact ⟨_, _, _, _, _, _, _, _, _, _, _, _, F, G, rfl, Own.keep _ _ _ o1 fun x hx => blk9_other (by have := f1 x hx; omega), Own.keep _ _ _ o2 fun x hx => blk9_other (by have := f2 x hx; omega), fun x hx => by have := f1 x hx; omega, fun x hx => by have := f2 x hx; omega, d1, d2, d3, (HZ9.out _ _ _ _ _ _ _ _ _ w6 HB6.out).2⟩
      obtain ⟨⟨c0, c1, c2, c3, c4, c5', c6', c7, c8⟩, g0, g1, g2, g3, g4, g5, g6, g7, g8⟩ := blk9 hz
      have HEQ : Hid (clH t = H ∧ clBd t = B ∧ clF t f = f ∧ clB t = true) := by
        have h1 := HHB2.out
        refine ⟨?_, ?_, ?_, HCB.out⟩
        · unfold clH; rw [HCB.out]; exact h1.1.symm
        · unfold clBd; rw [HCB.out]; exact h1.2.1.symm
        · unfold clF; rw [HCB.out]; rfl
      clear hf hz hb o1 o2 d1 d2 d3 f1 f2 e5
      go_wp2
      refine bodyPost_ret_by (results_ctx rfl _ _ (w.heap.size + 1) 36 _ (0, 0) _ rfl (HZ9.out _ _ _ _ _ _ _ _ _ w6 HB6.out).1 Tryd.underlying36 rfl (by kernel_rfl)) rfl ?_
      rw [HEQ.out.1, HEQ.out.2.1, HEQ.out.2.2.1, HEQ.out.2.2.2]
      exact HFIN.out _ _ _ _ _ _ _ _ _
end Go.Proofs.YtenmhpalpfppmaoDoor
