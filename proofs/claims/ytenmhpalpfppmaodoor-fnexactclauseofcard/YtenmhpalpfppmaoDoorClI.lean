/- impl.copiedClause of right terms. -/
import Derived.Test.YtenmhpalpfppmaoDoorCopOk
import Derived.Test.YtenmhpalpfppmaoDoorClone
import Derived.Test.YtenmhpalpfppmaoDoorMrg9
import Derived.Deep.RegionWith
import Derived.Deep.DeepCutAuto
namespace Go.Proofs.YtenmhpalpfppmaoDoor
open Go.RowKit

set_option maxHeartbeats 4000000 in
set_option maxRecDepth 20000 in
theorem copied_clause (H B : Tm) (f : ByteArray) (w : World) (gc : Nat) (k s n ao l c k' s' n' ao' l' c') (h1 : TmIn w H (.agg #[.int .i64 k, .string s, .int .i64 n, .slice ao l c])) (h2 : TmIn w B (.agg #[.int .i64 k', .string s', .int .i64 n', .slice ao' l' c'])) (o1 : H.ok = true) (o2 : B.ok = true) (hf : f.size ≤ 1048576) :
    Calls Tryd.prog 32 #[.pointer (some ⟨gc, 0, none⟩), .agg #[.int .i64 k, .string s, .int .i64 n, .slice ao l c, .int .i64 k', .string s', .int .i64 n', .slice ao' l' c', .string f]] w fun e w' => ∃ k s n ao l c k' s' n' ao' l' c' F G, e = .returned (.agg #[.int .i64 k, .string s, .int .i64 n, .slice ao l c, .int .i64 k', .string s', .int .i64 n', .slice ao' l' c', .string f]) ∧ Own 31 w' H (.agg #[.int .i64 k, .string s, .int .i64 n, .slice ao l c]) F ∧ Own 31 w' B (.agg #[.int .i64 k', .string s', .int .i64 n', .slice ao' l' c']) G ∧
      (∀ x ∈ F, w.heap.size ≤ x) ∧ (∀ x ∈ G, w.heap.size ≤ x) ∧ F.Nodup ∧ G.Nodup ∧ (∀ x ∈ G, x ∉ F) ∧ Below w.heap.size w w' := by
  obtain ⟨W, hW⟩ : ∃ W, W = (w.alloc (.cells #[.int .i64 k, .string s, .int .i64 n, .slice ao l c, .int .i64 k', .string s', .int .i64 n', .slice ao' l' c', .string f] 36)).alloc (.cells #[.int .i64 0, .string ⟨#[]⟩, .int .i64 0, .slice none 0 0, .int .i64 0, .string ⟨#[]⟩, .int .i64 0, .slice none 0 0, .string ⟨#[]⟩] 36) := ⟨_, rfl⟩
  have bW : Below w.heap.size w W := by rw [hW]; exact ((Below.refl _ _).alloc (Nat.le_refl _) _).alloc (by simp) _
  have lW : W.heap.size = w.heap.size + 2 := by rw [hW]; simp
  have k1 : W.heap[w.heap.size]? = some (.cells #[.int .i64 k, .string s, .int .i64 n, .slice ao l c, .int .i64 k', .string s', .int .i64 n', .slice ao' l' c', .string f] 36 (0, 0)) := by rw [hW]; exact (alloc_old _ _ (by simp)).trans (alloc_at _ _ rfl)
  have k2 : W.heap[w.heap.size + 1]? = some (.cells #[.int .i64 0, .string ⟨#[]⟩, .int .i64 0, .slice none 0 0, .int .i64 0, .string ⟨#[]⟩, .int .i64 0, .slice none 0 0, .string ⟨#[]⟩] 36 (0, 0)) := by rw [hW]; exact alloc_at _ _ (by simp)
  have HK : Hid (∀ w1, Below W.heap.size W w1 → w1.heap[w.heap.size]? = some (.cells #[.int .i64 k, .string s, .int .i64 n, .slice ao l c, .int .i64 k', .string s', .int .i64 n', .slice ao' l' c', .string f] 36 (0, 0)) ∧ w1.heap[w.heap.size + 1]? = some (.cells #[.int .i64 0, .string ⟨#[]⟩, .int .i64 0, .slice none 0 0, .int .i64 0, .string ⟨#[]⟩, .int .i64 0, .slice none 0 0, .string ⟨#[]⟩] 36 (0, 0))) := fun w1 hb => ⟨(hb.block _ (by omega)).trans k1, (hb.block _ (by omega)).trans k2⟩
  have HH : Hid (∀ w1, Below W.heap.size W w1 → Calls Tryd.prog 53 #[.pointer (some ⟨gc, 0, none⟩), .agg #[.int .i64 k, .string s, .int .i64 n, .slice ao l c]] w1 fun e w' => ∃ v' F', e = .returned v' ∧ Own 31 w' H v' F' ∧ (∀ f ∈ F', w1.heap.size ≤ f) ∧ F'.Nodup ∧ Below w1.heap.size w1 w') := fun w1 hb => copy_ok H _ w1 gc (TmIn.keep hb _ _ (TmIn.keep bW _ _ h1)) o1
  have HB : Hid (∀ w1, Below W.heap.size W w1 → Calls Tryd.prog 53 #[.pointer (some ⟨gc, 0, none⟩), .agg #[.int .i64 k', .string s', .int .i64 n', .slice ao' l' c']] w1 fun e w' => ∃ v' F', e = .returned v' ∧ Own 31 w' B v' F' ∧ (∀ f ∈ F', w1.heap.size ≤ f) ∧ F'.Nodup ∧ Below w1.heap.size w1 w') := fun w1 hb => copy_ok B _ w1 gc (TmIn.keep hb _ _ (TmIn.keep bW _ _ h2)) o2
  have HC : Hid (∀ w1, Calls Tryd.prog 54 #[.string f] w1 fun e w' => e = .returned (.string f) ∧ Below w1.heap.size w1 w') := fun w1 => clone_any f w1 hf
  have HBW : Hid (Below w.heap.size w W) := bW
  have HL : Hid (W.heap.size = w.heap.size + 2) := lW
  clear h1 h2 o1 o2 hf k1 k2 bW lW
  go_enter Tryd.func32, Tryd.ntmps32
  go_upto_region 1 with fail
  rw [← hW]
  clear hW
  obtain ⟨p, hp⟩ : ∃ p, p = w.heap.size := ⟨_, rfl⟩
  rw [← hp] at HK HL ⊢
  have HPP : Hid (p = w.heap.size) := hp
  clear hp
  refine wp_region_facts 11 (fun i v S w' => match i with
    | 0 => v = (.pointer (some ⟨gc, 0, none⟩))
    | 1 => v = (.pointer (some ⟨p, 0, none⟩))
    | 2 => v = (.agg #[.int .i64 k, .string s, .int .i64 n, .slice ao l c])
    | 3 => ∃ k s n ao l c, v = .agg #[.int .i64 k, .string s, .int .i64 n, .slice ao l c] ∧ Own 31 w' H v S ∧ S.Nodup
    | 4 => v = (.pointer (some ⟨gc, 0, none⟩))
    | 5 => v = (.pointer (some ⟨p, 4, none⟩))
    | 6 => v = (.agg #[.int .i64 k', .string s', .int .i64 n', .slice ao' l' c'])
    | 7 => ∃ k s n ao l c, v = .agg #[.int .i64 k, .string s, .int .i64 n, .slice ao l c] ∧ Own 31 w' B v S ∧ S.Nodup
    | 8 => v = (.pointer (some ⟨p, 8, none⟩))
    | 9 => v = (.string f)
    | _ => v = (.string f)) (by kernel_rfl) (by kernel_rfl) 17 rfl (by kernel_rfl) ?_ ?_ ?_
  · intro i v S w w' hi h hb
    match i, hi, h with
    | 0, _, h => exact h
    | 1, _, h => exact h
    | 2, _, h => exact h
    | 3, _, ⟨k, s, n, ao, l, c, h1, h2, h3⟩ => exact ⟨k, s, n, ao, l, c, h1, Own.keep _ _ _ h2 fun x hx => hb.block x (Own.lt _ _ _ h2 x hx), h3⟩
    | 4, _, h => exact h
    | 5, _, h => exact h
    | 6, _, h => exact h
    | 7, _, ⟨k, s, n, ao, l, c, h1, h2, h3⟩ => exact ⟨k, s, n, ao, l, c, h1, Own.keep _ _ _ h2 fun x hx => hb.block x (Own.lt _ _ _ h2 x hx), h3⟩
    | 8, _, h => exact h
    | 9, _, h => exact h
    | 10, _, h => exact h
  · intro i o hi ho a w' hb hfr hdep
    obtain ⟨⟨c0, c1, c2, c3, c4, c5, c6, c7, c8⟩, _⟩ := blk9 (HK.out w' hb).1
    have u0 : a.tmps.getD 0 undef = (.pointer (some ⟨gc, 0, none⟩)) := hfr 0 (by decide)
    have u3 : a.tmps.getD 3 undef = (.pointer (some ⟨p, 0, none⟩)) := hfr 3 (by decide)
    match i, hi with
    | 0, _ =>
      obtain rfl : _ = o := by simpa using ho
      refine fact_value (w' := w') (v := (.pointer (some ⟨gc, 0, none⟩))) ?_ (Below.refl _ _) ⟨[], rfl, by simp⟩
      simp only [execOp, Act.eval, u0]
      go_simp
    | 1, _ =>
      obtain rfl : _ = o := by simpa using ho
      refine fact_value (w' := w') (v := (.pointer (some ⟨p, 0, none⟩))) ?_ (Below.refl _ _) ⟨[], rfl, by simp⟩
      simp only [execOp, Act.eval, u3]
      go_simp
    | 2, _ =>
      obtain rfl : _ = o := by simpa using ho
      obtain ⟨_, h1⟩ : ∃ _ : List Nat, a.tmps.getD 6 undef = (.pointer (some ⟨p, 0, none⟩)) := hdep 1 (by kernel_rfl)
      refine fact_value (w' := w') (v := (.agg #[.int .i64 k, .string s, .int .i64 n, .slice ao l c])) ?_ (Below.refl _ _) ⟨[], rfl, by simp⟩
      simp only [execOp, Act.eval, h1]
      go_simp
    | 3, _ =>
      obtain rfl : _ = o := by simpa using ho
      obtain ⟨_, h0⟩ : ∃ _ : List Nat, a.tmps.getD 5 undef = (.pointer (some ⟨gc, 0, none⟩)) := hdep 0 (by kernel_rfl)
      obtain ⟨_, h2⟩ : ∃ _ : List Nat, a.tmps.getD 7 undef = (.agg #[.int .i64 k, .string s, .int .i64 n, .slice ao l c]) := hdep 2 (by kernel_rfl)
      refine fact_call rfl Tryd.func53 (by kernel_rfl) (by kernel_rfl) (args := #[.pointer (some ⟨gc, 0, none⟩), .agg #[.int .i64 k, .string s, .int .i64 n, .slice ao l c]]) ?_ ?_
      · simp [Act.eval, h0, h2]
      · refine Calls.mono (HH.out w' hb) ?_
        rintro e w4 ⟨v4, F4, rfl, o4, f4, n4, hb4⟩
        obtain ⟨k9, s9, n9, a9, l9, c9, rfl⟩ := own_shape o4
        exact ⟨_, rfl, hb4, F4, ⟨_, _, _, _, _, _, rfl, o4, n4⟩, fun x hx => ⟨f4 x hx, Own.lt _ _ _ o4 x hx⟩⟩
    | 4, _ =>
      obtain rfl : _ = o := by simpa using ho
      refine fact_value (w' := w') (v := (.pointer (some ⟨gc, 0, none⟩))) ?_ (Below.refl _ _) ⟨[], rfl, by simp⟩
      simp only [execOp, Act.eval, u0]
      go_simp
    | 5, _ =>
      obtain rfl : _ = o := by simpa using ho
      refine fact_value (w' := w') (v := (.pointer (some ⟨p, 4, none⟩))) ?_ (Below.refl _ _) ⟨[], rfl, by simp⟩
      simp only [execOp, Act.eval, u3]
      go_simp
    | 6, _ =>
      obtain rfl : _ = o := by simpa using ho
      obtain ⟨_, h5⟩ : ∃ _ : List Nat, a.tmps.getD 10 undef = (.pointer (some ⟨p, 4, none⟩)) := hdep 5 (by kernel_rfl)
      refine fact_value (w' := w') (v := (.agg #[.int .i64 k', .string s', .int .i64 n', .slice ao' l' c'])) ?_ (Below.refl _ _) ⟨[], rfl, by simp⟩
      simp only [execOp, Act.eval, h5]
      go_simp
    | 7, _ =>
      obtain rfl : _ = o := by simpa using ho
      obtain ⟨_, h4⟩ : ∃ _ : List Nat, a.tmps.getD 9 undef = (.pointer (some ⟨gc, 0, none⟩)) := hdep 4 (by kernel_rfl)
      obtain ⟨_, h6⟩ : ∃ _ : List Nat, a.tmps.getD 11 undef = (.agg #[.int .i64 k', .string s', .int .i64 n', .slice ao' l' c']) := hdep 6 (by kernel_rfl)
      refine fact_call rfl Tryd.func53 (by kernel_rfl) (by kernel_rfl) (args := #[.pointer (some ⟨gc, 0, none⟩), .agg #[.int .i64 k', .string s', .int .i64 n', .slice ao' l' c']]) ?_ ?_
      · simp [Act.eval, h4, h6]
      · refine Calls.mono (HB.out w' hb) ?_
        rintro e w4 ⟨v4, F4, rfl, o4, f4, n4, hb4⟩
        obtain ⟨k9, s9, n9, a9, l9, c9, rfl⟩ := own_shape o4
        exact ⟨_, rfl, hb4, F4, ⟨_, _, _, _, _, _, rfl, o4, n4⟩, fun x hx => ⟨f4 x hx, Own.lt _ _ _ o4 x hx⟩⟩
    | 8, _ =>
      obtain rfl : _ = o := by simpa using ho
      refine fact_value (w' := w') (v := (.pointer (some ⟨p, 8, none⟩))) ?_ (Below.refl _ _) ⟨[], rfl, by simp⟩
      simp only [execOp, Act.eval, u3]
      go_simp
    | 9, _ =>
      obtain rfl : _ = o := by simpa using ho
      obtain ⟨_, h8⟩ : ∃ _ : List Nat, a.tmps.getD 13 undef = (.pointer (some ⟨p, 8, none⟩)) := hdep 8 (by kernel_rfl)
      refine fact_value (w' := w') (v := (.string f)) ?_ (Below.refl _ _) ⟨[], rfl, by simp⟩
      simp only [execOp, Act.eval, h8]
      go_simp
    | 10, _ =>
      obtain rfl : _ = o := by simpa using ho
      obtain ⟨_, h9⟩ : ∃ _ : List Nat, a.tmps.getD 14 undef = (.string f) := hdep 9 (by kernel_rfl)
      refine fact_call rfl Tryd.func54 (by kernel_rfl) (by kernel_rfl) (args := #[.string f]) ?_ ?_
      · simp [Act.eval, h9]
      · refine Calls.mono (HC.out w') ?_
        rintro e w4 ⟨rfl, hb4⟩
        exact ⟨_, rfl, hb4, [], rfl, by simp⟩
  intro vals S w1 hb hf hap
  obtain ⟨k3, s3, n3, a3, l3, c3, e3, ow3, nd3⟩ := (hf 3 (by omega)).1
  obtain ⟨k7, s7, n7, a7, l7, c7, e7, ow7, nd7⟩ := (hf 7 (by omega)).1
  have e10 : vals 10 = .string f := (hf 10 (by omega)).1
  have hd : ∀ x ∈ S 7, x ∉ S 3 := hap 7 3 (by omega) (by omega) (by omega)
  have hf3 : ∀ x ∈ S 3, p + 2 ≤ x := fun x hx => by have := ((hf 3 (by omega)).2 x hx).1; have := HL.out; omega
  have hf7 : ∀ x ∈ S 7, p + 2 ≤ x := fun x hx => by have := ((hf 7 (by omega)).2 x hx).1; have := HL.out; omega
  rw [e3] at ow3
  rw [e7] at ow7
  simp only [putN, List.getElem?_toArray, List.getElem?_cons_zero, List.getElem?_cons_succ, Option.bind_some, List.drop_succ_cons, List.drop_zero, e3, e7, e10]
  generalize vals 0 = m0
  generalize vals 1 = m1
  generalize vals 2 = m2
  generalize vals 4 = m4
  generalize vals 5 = m5
  generalize vals 6 = m6
  generalize vals 8 = m8
  generalize vals 9 = m9
  simp only [Act.put, List.setIfInBounds_toArray, List.set_cons_succ, List.set_cons_zero]
  have hz := (HK.out w1 hb).2
  have HFIN : Hid (∀ d0 d1 d2 d3 d4 d5 d6 d7 d8, Own 31 (set9 w1 (p + 1) d0 d1 d2 d3 d4 d5 d6 d7 d8) H (.agg #[.int .i64 k3, .string s3, .int .i64 n3, .slice a3 l3 c3]) (S 3) ∧ Own 31 (set9 w1 (p + 1) d0 d1 d2 d3 d4 d5 d6 d7 d8) B (.agg #[.int .i64 k7, .string s7, .int .i64 n7, .slice a7 l7 c7]) (S 7) ∧
      (∀ x ∈ S 3, p ≤ x) ∧ (∀ x ∈ S 7, p ≤ x) ∧ (S 3).Nodup ∧ (S 7).Nodup ∧ (∀ x ∈ S 7, x ∉ S 3) ∧ Below p w (set9 w1 (p + 1) d0 d1 d2 d3 d4 d5 d6 d7 d8)) := fun d0 d1 d2 d3 d4 d5 d6 d7 d8 =>
    ⟨Own.keep _ _ _ ow3 fun x hx => blk9_other (by have := hf3 x hx; omega), Own.keep _ _ _ ow7 fun x hx => blk9_other (by have := hf7 x hx; omega), fun x hx => by have := hf3 x hx; omega, fun x hx => by have := hf7 x hx; omega, nd3, nd7, hd,
      blk9_below (by rw [HPP.out]; exact HBW.out.trans (hb.mono HBW.out.size)) (by omega)⟩
  have HZ : Hid _ := hz
  obtain ⟨⟨c0, c1, c2, c3, c4, c5, c6, c7, c8⟩, g0, g1, g2, g3, g4, g5, g6, g7, g8⟩ := blk9 hz
  clear hf hap hd hf3 hf7 ow3 ow7 nd3 nd7 e3 e7 e10 hz hb
  go_wp2
  refine bodyPost_ret_by (results_cell_row rfl _ _ (p + 1) 36 _ (0, 0) _ rfl (blk9_set HZ.out) Tryd.underlying36 rfl (by kernel_rfl)) rfl ?_
  rw [← HPP.out]
  exact ⟨_, _, _, _, _, _, _, _, _, _, _, _, _, _, rfl, HFIN.out _ _ _ _ _ _ _ _ _⟩
end Go.Proofs.YtenmhpalpfppmaoDoor
