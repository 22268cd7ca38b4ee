/- impl.Shifted: a copy with other numbers, or as it is. -/
import Derived.Test.YtcmnjpoapcoghamShiftM
import Derived.Test.YtcmnjpoapcoghamCopE
import Derived.Test.YtcmnjpoapcoghamNewCop
import Derived.Deep.RegionWith
import Derived.Deep.DeepCutAuto
namespace Go.Proofs.Ytcmnjpoapcogham
open Go.RowKit


theorem right_shp2 (b : Int) (t : Tm) : ∀ d, t.right d = true → t.allV (fun n => 0 ≤ n + b ∧ n + b ≤ 99999) → t.shp b := by
  refine tm_ind (p := fun t => ∀ d, t.right d = true → t.allV (fun n => 0 ≤ n + b ∧ n + b ≤ 99999) → t.shp b) ?_ t
  intro k s n ks hks d h ha
  rw [right_mk, Bool.and_eq_true, Bool.and_eq_true] at h
  obtain ⟨⟨_, h2⟩, h3⟩ := h
  rw [rights_all, List.all_eq_true] at h3
  rw [allV_mk, allVs_all] at ha
  rw [shp_mk, shps_all]
  unfold oneT at h2
  refine ⟨fun hk => ?_, ?_, fun t ht => hks t ht _ (h3 t ht) (ha.2 t ht)⟩
  · have := ha.1 hk; omega
  · split at h2
    · simp at h2; exact Or.inl h2.2
    · split at h2
      · simp at h2; exact Or.inl h2.2
      · split at h2
        · simp at h2; exact Or.inl h2.2
        · split at h2
          · rename_i h4; simp at h2; exact Or.inr ⟨h4, h2.1.2⟩
          · simp at h2

set_option maxHeartbeats 4000000 in
set_option maxRecDepth 20000 in
theorem impl_shifted (t : Tm) (w : World) (v : Value) (F : List Nat) (b : Int) (hown : Own 28 w t v F) (hnd : F.Nodup) (hwt : t.wt ≤ 1048576) :
    Calls Try.prog 12 #[v, .int .i64 b] w fun e w' => ∃ v' F', e = .returned v' ∧ Own 28 w' (shiftR t b) v' F' ∧ (∀ f ∈ F', w.heap.size ≤ f) ∧ F'.Nodup ∧ Below w.heap.size w w' := by
  obtain ⟨k, s, n, ao, len, cap, rfl⟩ := own_shape hown
  have hlt := Own.lt _ _ _ hown
  obtain ⟨W, hW⟩ : ∃ W, W = (w.alloc (.cells #[.int .i64 k, .string s, .int .i64 n, .slice ao len cap] 28)).alloc (.cells #[.int .i64 0, .string ⟨#[]⟩, .int .i64 0, .slice none 0 0] 28) := ⟨_, rfl⟩
  have bW : Below w.heap.size w W := by rw [hW]; exact ((Below.refl _ _).alloc (Nat.le_refl _) _).alloc (by simp) _
  have lW : W.heap.size = w.heap.size + 2 := by rw [hW]; simp
  have k1 : W.heap[w.heap.size]? = some (.cells #[.int .i64 k, .string s, .int .i64 n, .slice ao len cap] 28 (0, 0)) := by rw [hW]; exact (alloc_old _ _ (by simp)).trans (alloc_at _ _ rfl)
  have k2 : W.heap[w.heap.size + 1]? = some (.cells #[.int .i64 0, .string ⟨#[]⟩, .int .i64 0, .slice none 0 0] 28 (0, 0)) := by rw [hW]; exact alloc_at _ _ (by simp)
  have HW3 : Hid (∀ w', Below W.heap.size W w' → Below w.heap.size w w' ∧ Own 28 w' t (.agg #[.int .i64 k, .string s, .int .i64 n, .slice ao len cap]) F ∧ w'.heap[w.heap.size]? = some (.cells #[.int .i64 k, .string s, .int .i64 n, .slice ao len cap] 28 (0, 0)) ∧ w'.heap[w.heap.size + 1]? = some (.cells #[.int .i64 0, .string ⟨#[]⟩, .int .i64 0, .slice none 0 0] 28 (0, 0))) := fun w' hb => by
    have hbb := bW.trans (hb.mono bW.size)
    exact ⟨hbb, Own.keep _ _ _ hown fun f hf => hbb.block f (hlt f hf), (hb.block _ (by omega)).trans k1, (hb.block _ (by omega)).trans k2⟩
  have HOK := implOk t W _ (Own.toIn _ _ _ (HW3.out W (Below.refl _ _)).2.1)
  -- what is left when the answer is stored
  have HEND : Hid (∀ w1 w' v' F' R, Below W.heap.size W w1 → Own 28 w' R v' F' → (∀ f ∈ F', w1.heap.size ≤ f) → Below w.heap.size w w' → w'.heap[w.heap.size + 1]? = some (.cells #[.int .i64 0, .string ⟨#[]⟩, .int .i64 0, .slice none 0 0] 28 (0, 0)) → ∀ d0 d1 d2 d3 w5, w5 = ((((w'.setCell ⟨w.heap.size + 1, 0, none⟩ d0).setCell ⟨w.heap.size + 1, 1, none⟩ d1).setCell ⟨w.heap.size + 1, 2, none⟩ d2).setCell ⟨w.heap.size + 1, 3, none⟩ d3) → Own 28 w5 R v' F' ∧ (∀ f ∈ F', w.heap.size ≤ f) ∧ Below w.heap.size w w5) := by
    intro w1 w' v' F' R hb1 ho hf hb _ d0 d1 d2 d3 w5 hw5
    have hs1 := hb1.size
    refine ⟨Own.keep _ _ _ ho fun f hf' => ?_, fun f hf' => ?_, ?_⟩
    · have := hf f hf'
      rw [hw5, blk4_other (by omega)]
    · have := hf f hf'; omega
    · rw [hw5]; exact blk4_below hb (by omega)
  have HND0 : Hid F.Nodup := hnd
  have HWT : Hid (t.wt ≤ 1048576) := hwt
  have HLT : Hid (∀ f ∈ F, f < w.heap.size) := hlt
  by_cases hok : t.ok = true
  · have hr : t.right 1 = true := by
      unfold Tm.ok at hok
      rw [Bool.and_eq_true] at hok
      exact hok.2
    have hv : ∀ n ∈ t.vars [], 0 ≤ n ∧ n ≤ 99999 := (vars_all _ t []).2 ⟨by simp, right_vars t 1 hr⟩
    have HMS : Hid (∀ w', Below W.heap.size W w' → Calls Try.prog 36 #[.agg #[.int .i64 k, .string s, .int .i64 n, .slice ao len cap], .int .i64 b] w' fun e w2 => e = .returned (.bool (decide (∀ n ∈ t.vars [], -n ≤ b ∧ b ≤ 99999 - n))) ∧ Below w'.heap.size w' w2) := fun w' hb => may_shift t w' _ F b (HW3.out w' hb).2.1 hnd hwt hv
    rw [hok, hW] at HOK
    replace HOK : Hid _ := HOK
    by_cases hm : ∀ n ∈ t.vars [], -n ≤ b ∧ b ≤ 99999 - n
    · have hR : shiftR t b = t.shift b := by unfold shiftR; rw [if_pos ⟨hok, hm⟩]
      rw [hR]
      rw [decide_eq_true hm] at HMS
      have hsh : t.shp b := right_shp2 b t 1 hr ((vars_all (fun n => 0 ≤ n + b ∧ n + b ≤ 99999) t []).1 (fun x hx => by have := hm x hx; omega)).2
      have HSR : Hid (∀ w', Below W.heap.size W w' → Calls Try.prog 39 #[.agg #[.int .i64 k, .string s, .int .i64 n, .slice ao len cap], .int .i64 b] w' fun e w2 => ∃ v' F, e = .returned v' ∧ Own 28 w2 (t.shift b) v' F ∧ (∀ f ∈ F, w'.heap.size ≤ f) ∧ F.Nodup ∧ Below w'.heap.size w' w2) := fun w' hb => shifted_right b t w' _ (Own.toIn _ _ _ (HW3.out w' hb).2.1) hwt hsh
      clear hown hnd hwt hlt bW lW k1 k2 hok hr hv hm hR hsh
      go_enter Try.func12, Try.ntmps12
      go_wp2_with (first
        | (go_at_call 35; refine (Calls.mono HOK.out ?_); rintro e w1 ⟨rfl, hb⟩; rw [← hW] at hb; have HB1 : Hid (Below W.heap.size W w1) := hb; obtain ⟨x0, x1, x2, x3, _⟩ := blk4 (HW3.out w1 hb).2.2.1; have HM1 : Hid _ := HMS.out w1 hb; clear hb)
        | (go_at_call 36; refine (Calls.mono HM1.out ?_); rintro e w2 ⟨rfl, hb⟩; have HB2 : Hid (Below W.heap.size W w2) := HB1.out.trans (hb.mono HB1.out.size); clear x0 x1 x2 x3; obtain ⟨x0, x1, x2, x3, _⟩ := blk4 (HW3.out w2 HB2.out).2.2.1; have HS2 : Hid _ := HSR.out w2 HB2.out; clear hb)
        | (go_at_call 39; refine (Calls.mono HS2.out ?_); rintro e w3 ⟨v', F', rfl, ho, hfr, hnd, hb⟩; obtain ⟨k', s', n', ao', l', cap', rfl⟩ := own_shape ho; have HB3 : Hid (Below W.heap.size W w3) := HB2.out.trans (hb.mono HB2.out.size); have HZ : Hid (w3.heap[w.heap.size + 1]? = some (.cells #[.int .i64 0, .string ⟨#[]⟩, .int .i64 0, .slice none 0 0] 28 (0, 0))) := (HW3.out w3 HB3.out).2.2.2; obtain ⟨y0, y1, y2, y3, z0, z1, z2, z3⟩ := blk4 HZ.out; have HX : Hid _ := HEND.out w2 w3 _ F' _ HB2.out ho hfr (HW3.out w3 HB3.out).1 HZ.out; have HND : Hid F'.Nodup := hnd; clear ho hfr hb hnd))
      refine bodyPost_ret_by (results_cell_row rfl _ _ (w.heap.size + 1) 28 _ (0, 0) _ rfl (blk4_set HZ.out) Try.underlying28 rfl (by kernel_rfl)) rfl ?_
      obtain ⟨r1, r2, r3⟩ := HX.out _ _ _ _ _ rfl
      exact ⟨_, F', rfl, r1, r2, HND.out, r3⟩
    · have hR : shiftR t b = t := by unfold shiftR; rw [if_neg (fun h => hm h.2)]
      rw [hR]
      rw [decide_eq_false hm] at HMS
      clear hown hlt bW k1 k2 hok hr hv hm hR hnd hwt
      go_enter Try.func12, Try.ntmps12
      go_upto_region 2 with (first
        | (go_at_call 35; refine (Calls.mono HOK.out ?_); rintro e w1 ⟨rfl, hb⟩; rw [← hW] at hb; have HB1 : Hid (Below W.heap.size W w1) := hb; obtain ⟨x0, x1, x2, x3, _⟩ := blk4 (HW3.out w1 hb).2.2.1; have HM1 : Hid _ := HMS.out w1 hb; clear hb)
        | (go_at_call 36; refine (Calls.mono HM1.out ?_); rintro e w2 ⟨rfl, hb⟩; have HBX : Hid (Below W.heap.size W w2) := HB1.out.trans (hb.mono HB1.out.size); clear hb))
      clear x0 x1 x2 x3 hW HOK HM1 HMS HB1
      have HD : Hid (Below W.heap.size W w2.drew) := HBX.out.drew
      obtain ⟨Z0, hZ0⟩ : ∃ Z0, Z0 = w2.drew.heap.size := ⟨_, rfl⟩
      have HNC : Hid (Calls Try.prog 37 #[] w2.drew fun e w1 => e = .returned (.pointer (some ⟨Z0 + 1, 0, none⟩)) ∧ (w1.cell? ⟨w.heap.size, 0, none⟩ = some (.int .i64 k) ∧ w1.cell? ⟨w.heap.size, 1, none⟩ = some (.string s) ∧ w1.cell? ⟨w.heap.size, 2, none⟩ = some (.int .i64 n) ∧ w1.cell? ⟨w.heap.size, 3, none⟩ = some (.slice ao len cap)) ∧ Hid (w1.heap[Z0 + 1]? = some (.cells #[.map (some Z0), .int .i64 0, .slice none 0 0] 83 (0, 0)) ∧ w1.heap[Z0]? = some (.map #[] 0) ∧ Below W.heap.size W w1)) := by
        rw [hZ0]
        refine Calls.mono (new_copier w2.drew) ?_
        rintro e w1 ⟨rfl, q1, q2, q3, q4⟩
        have hb : Below W.heap.size W w1 := HD.out.trans (q4.mono HD.out.size)
        obtain ⟨x0, x1, x2, x3, _⟩ := blk4 (HW3.out w1 hb).2.2.1
        exact ⟨rfl, ⟨x0, x1, x2, x3⟩, q1, q2, hb⟩
      have hZW : W.heap.size ≤ Z0 := by rw [hZ0]; exact HD.out.size
      have HCP : Hid (∀ w1, w1.heap[Z0 + 1]? = some (.cells #[.map (some Z0), .int .i64 0, .slice none 0 0] 83 (0, 0)) → w1.heap[Z0]? = some (.map #[] 0) → Below W.heap.size W w1 →
          Calls Try.prog 38 #[.pointer (some ⟨Z0 + 1, 0, none⟩), .agg #[.int .i64 k, .string s, .int .i64 n, .slice ao len cap]] w1 fun e w' => ∃ k' s' n' ao' l' cap' F', e = .returned (.agg #[.int .i64 k', .string s', .int .i64 n', .slice ao' l' cap']) ∧ F'.Nodup ∧ w'.heap[w.heap.size + 1]? = some (.cells #[.int .i64 0, .string ⟨#[]⟩, .int .i64 0, .slice none 0 0] 28 (0, 0)) ∧
            ∀ d0 d1 d2 d3 w5, w5 = ((((w'.setCell ⟨w.heap.size + 1, 0, none⟩ d0).setCell ⟨w.heap.size + 1, 1, none⟩ d1).setCell ⟨w.heap.size + 1, 2, none⟩ d2).setCell ⟨w.heap.size + 1, 3, none⟩ d3) → Own 28 w5 t (.agg #[.int .i64 k', .string s', .int .i64 n', .slice ao' l' cap']) F' ∧ (∀ f ∈ F', w.heap.size ≤ f) ∧ Below w.heap.size w w5) := by
        intro w1 q1 q2 hb1
        obtain ⟨hbw, ho, _, hz⟩ := HW3.out w1 hb1
        refine Calls.mono (copy_of t _ F w1 (Z0 + 1) Z0 0 ho HND0.out HWT.out q1 q2 (fun f hf => by have := HLT.out f hf; omega) (by omega)) ?_
        rintro e w' ⟨v', F', rfl, ho', hf', hnd', hout⟩
        obtain ⟨k', s', n', ao', l', cap', rfl⟩ := own_shape ho'
        have hs1 := hb1.size
        have hz' := (hout.block (w.heap.size + 1) (by omega) (by simp; omega)).trans hz
        have hbw' : Below w.heap.size w w' := hbw.trans (hout.below (B := w.heap.size) (by simp; omega) hbw.size)
        exact ⟨k', s', n', ao', l', cap', F', rfl, hnd', hz', HEND.out w1 w' _ F' t hb1 ho' hf' hbw' hz'⟩
      obtain ⟨u0, u1, u2, u3, _⟩ := blk4 (HW3.out w2.drew HD.out).2.2.1
      clear hZ0 hZW HBX
      go_region_with (first
        | (go_at_call 37; refine (Calls.mono HNC.out ?_); rintro e w6 ⟨rfl, ⟨x0, x1, x2, x3⟩, Q⟩; have HC : Hid _ := HCP.out w6 Q.out.1 Q.out.2.1 Q.out.2.2)
        | (go_at_call 38; refine (Calls.mono HC.out ?_); rintro e w7 ⟨k', s', n', ao', l', cap', F', rfl, hnd', hz, hfin⟩; obtain ⟨y0, y1, y2, y3, z0, z1, z2, z3⟩ := blk4 hz; have HZ : Hid _ := hz; have HF : Hid _ := hfin; have HN : Hid F'.Nodup := hnd'; clear hz hfin hnd'))
      all_goals
        go_wp2
        refine bodyPost_ret_by (results_cell_row rfl _ _ (w.heap.size + 1) 28 _ (0, 0) _ rfl (blk4_set HZ.out) Try.underlying28 rfl (by kernel_rfl)) rfl ?_
        obtain ⟨r1, r2, r3⟩ := HF.out _ _ _ _ _ rfl
        exact ⟨_, F', rfl, r1, r2, HN.out, r3⟩
  · have hR : shiftR t b = t := by unfold shiftR; rw [if_neg (fun h => hok h.1)]
    rw [hR]
    have hokf : t.ok = false := by cases h : t.ok with | false => rfl | true => exact absurd h hok
    rw [hokf, hW] at HOK
    replace HOK : Hid _ := HOK
    clear hown hlt bW k1 k2 hok hokf hR hnd hwt
    go_enter Try.func12, Try.ntmps12
    go_upto_region 2 with (go_at_call 35; refine (Calls.mono HOK.out ?_); rintro e w1 ⟨rfl, hb⟩; rw [← hW] at hb; have HBX : Hid (Below W.heap.size W w1) := hb; clear hb)
    clear hW HOK
    have HD : Hid (Below W.heap.size W w1.drew) := HBX.out.drew
    obtain ⟨Z0, hZ0⟩ : ∃ Z0, Z0 = w1.drew.heap.size := ⟨_, rfl⟩
    have HNC : Hid (Calls Try.prog 37 #[] w1.drew fun e w1 => e = .returned (.pointer (some ⟨Z0 + 1, 0, none⟩)) ∧ (w1.cell? ⟨w.heap.size, 0, none⟩ = some (.int .i64 k) ∧ w1.cell? ⟨w.heap.size, 1, none⟩ = some (.string s) ∧ w1.cell? ⟨w.heap.size, 2, none⟩ = some (.int .i64 n) ∧ w1.cell? ⟨w.heap.size, 3, none⟩ = some (.slice ao len cap)) ∧ Hid (w1.heap[Z0 + 1]? = some (.cells #[.map (some Z0), .int .i64 0, .slice none 0 0] 83 (0, 0)) ∧ w1.heap[Z0]? = some (.map #[] 0) ∧ Below W.heap.size W w1)) := by
      rw [hZ0]
      refine Calls.mono (new_copier w1.drew) ?_
      rintro e w1 ⟨rfl, q1, q2, q3, q4⟩
      have hb : Below W.heap.size W w1 := HD.out.trans (q4.mono HD.out.size)
      obtain ⟨x0, x1, x2, x3, _⟩ := blk4 (HW3.out w1 hb).2.2.1
      exact ⟨rfl, ⟨x0, x1, x2, x3⟩, q1, q2, hb⟩
    have hZW : W.heap.size ≤ Z0 := by rw [hZ0]; exact HD.out.size
    have HCP : Hid (∀ w1, w1.heap[Z0 + 1]? = some (.cells #[.map (some Z0), .int .i64 0, .slice none 0 0] 83 (0, 0)) → w1.heap[Z0]? = some (.map #[] 0) → Below W.heap.size W w1 →
        Calls Try.prog 38 #[.pointer (some ⟨Z0 + 1, 0, none⟩), .agg #[.int .i64 k, .string s, .int .i64 n, .slice ao len cap]] w1 fun e w' => ∃ k' s' n' ao' l' cap' F', e = .returned (.agg #[.int .i64 k', .string s', .int .i64 n', .slice ao' l' cap']) ∧ F'.Nodup ∧ w'.heap[w.heap.size + 1]? = some (.cells #[.int .i64 0, .string ⟨#[]⟩, .int .i64 0, .slice none 0 0] 28 (0, 0)) ∧
          ∀ d0 d1 d2 d3 w5, w5 = ((((w'.setCell ⟨w.heap.size + 1, 0, none⟩ d0).setCell ⟨w.heap.size + 1, 1, none⟩ d1).setCell ⟨w.heap.size + 1, 2, none⟩ d2).setCell ⟨w.heap.size + 1, 3, none⟩ d3) → Own 28 w5 t (.agg #[.int .i64 k', .string s', .int .i64 n', .slice ao' l' cap']) F' ∧ (∀ f ∈ F', w.heap.size ≤ f) ∧ Below w.heap.size w w5) := by
      intro w1 q1 q2 hb1
      obtain ⟨hbw, ho, _, hz⟩ := HW3.out w1 hb1
      refine Calls.mono (copy_of t _ F w1 (Z0 + 1) Z0 0 ho HND0.out HWT.out q1 q2 (fun f hf => by have := HLT.out f hf; omega) (by omega)) ?_
      rintro e w' ⟨v', F', rfl, ho', hf', hnd', hout⟩
      obtain ⟨k', s', n', ao', l', cap', rfl⟩ := own_shape ho'
      have hs1 := hb1.size
      have hz' := (hout.block (w.heap.size + 1) (by omega) (by simp; omega)).trans hz
      have hbw' : Below w.heap.size w w' := hbw.trans (hout.below (B := w.heap.size) (by simp; omega) hbw.size)
      exact ⟨k', s', n', ao', l', cap', F', rfl, hnd', hz', HEND.out w1 w' _ F' t hb1 ho' hf' hbw' hz'⟩
    obtain ⟨u0, u1, u2, u3, _⟩ := blk4 (HW3.out w1.drew HD.out).2.2.1
    clear hZ0 hZW HBX
    go_region_with (first
      | (go_at_call 37; refine (Calls.mono HNC.out ?_); rintro e w6 ⟨rfl, ⟨x0, x1, x2, x3⟩, Q⟩; have HC : Hid _ := HCP.out w6 Q.out.1 Q.out.2.1 Q.out.2.2)
      | (go_at_call 38; refine (Calls.mono HC.out ?_); rintro e w7 ⟨k', s', n', ao', l', cap', F', rfl, hnd', hz, hfin⟩; obtain ⟨y0, y1, y2, y3, z0, z1, z2, z3⟩ := blk4 hz; have HZ : Hid _ := hz; have HF : Hid _ := hfin; have HN : Hid F'.Nodup := hnd'; clear hz hfin hnd'))
    all_goals
      go_wp2
      refine bodyPost_ret_by (results_cell_row rfl _ _ (w.heap.size + 1) 28 _ (0, 0) _ rfl (blk4_set HZ.out) Try.underlying28 rfl (by kernel_rfl)) rfl ?_
      obtain ⟨r1, r2, r3⟩ := HF.out _ _ _ _ _ rfl
      exact ⟨_, F', rfl, r1, r2, HN.out, r3⟩
end Go.Proofs.Ytcmnjpoapcogham
