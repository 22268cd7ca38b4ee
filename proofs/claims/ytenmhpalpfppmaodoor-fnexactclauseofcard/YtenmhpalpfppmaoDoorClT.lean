/- spec.l34Clause, spec.ClauseOf. -/
import Derived.Test.YtenmhpalpfppmaoDoorMrg10
namespace Go.Proofs.YtenmhpalpfppmaoDoor
open Go.RowKit

theorem blk9_set4a {w : World} {g : Nat} {c0 c1 c2 c3 c4 c5 c6 c7 c8 d0 d1 d2 d3 : Value} {T : TypeId} (h : w.heap[g]? = some (.cells #[c0, c1, c2, c3, c4, c5, c6, c7, c8] T (0, 0))) :
    ((((w.setCell ⟨g, 0, none⟩ d0).setCell ⟨g, 1, none⟩ d1).setCell ⟨g, 2, none⟩ d2).setCell ⟨g, 3, none⟩ d3).heap[g]? = some (.cells #[d0, d1, d2, d3, c4, c5, c6, c7, c8] T (0, 0)) := by
  have := blk_set (i := 3) (blk_set (i := 2) (blk_set (i := 1) (blk_set (i := 0) h d0) d1) d2) d3
  simpa using this
theorem set4b_other {w : World} {g f : Nat} {d0 d1 d2 d3 : Value} (h : f ≠ g) :
    ((((w.setCell ⟨g, 4, none⟩ d0).setCell ⟨g, 5, none⟩ d1).setCell ⟨g, 6, none⟩ d2).setCell ⟨g, 7, none⟩ d3).heap[f]? = w.heap[f]? := by
  rw [blk_other _ h, blk_other _ h, blk_other _ h, blk_other _ h]

set_option maxHeartbeats 4000000 in
set_option maxRecDepth 20000 in
theorem l34_clause (H B : Tm) (f : ByteArray) (w : World) (k1 s1 n1 a1 l1 c1 k2 s2 n2 a2 l2 c2) (h1 : TmIn w H (.agg #[.int .i64 k1, .string s1, .int .i64 n1, .slice a1 l1 c1])) (h2 : TmIn w B (.agg #[.int .i64 k2, .string s2, .int .i64 n2, .slice a2 l2 c2])) (o1 : H.wt ≤ 1048576) (o2 : B.wt ≤ 1048576) :
    Calls Tryd.prog 28 #[.agg #[.int .i64 k1, .string s1, .int .i64 n1, .slice a1 l1 c1, .int .i64 k2, .string s2, .int .i64 n2, .slice a2 l2 c2, .string f]] w fun e w' => ∃ k s n ao l c k' s' n' ao' l' c' F G, e = .returned (.agg #[.int .i64 k, .string s, .int .i64 n, .slice ao l c, .int .i64 k', .string s', .int .i64 n', .slice ao' l' c', .string f]) ∧ Own 31 w' H (.agg #[.int .i64 k, .string s, .int .i64 n, .slice ao l c]) F ∧ Own 31 w' B (.agg #[.int .i64 k', .string s', .int .i64 n', .slice ao' l' c']) G ∧
      (∀ x ∈ F, w.heap.size ≤ x) ∧ (∀ x ∈ G, w.heap.size ≤ x) ∧ F.Nodup ∧ G.Nodup ∧ (∀ x ∈ G, x ∉ F) ∧ Below w.heap.size w w' := by
  obtain ⟨W, hW⟩ : ∃ W, W = (w.alloc (.cells #[.int .i64 k1, .string s1, .int .i64 n1, .slice a1 l1 c1, .int .i64 k2, .string s2, .int .i64 n2, .slice a2 l2 c2, .string f] 36)).alloc (.cells #[.int .i64 0, .string ⟨#[]⟩, .int .i64 0, .slice none 0 0, .int .i64 0, .string ⟨#[]⟩, .int .i64 0, .slice none 0 0, .string ⟨#[]⟩] 36) := ⟨_, rfl⟩
  have bW : Below w.heap.size w W := by rw [hW]; exact ((Below.refl _ _).alloc (Nat.le_refl _) _).alloc (by simp) _
  have lW : W.heap.size = w.heap.size + 2 := by rw [hW]; simp
  have k1' : W.heap[w.heap.size]? = some (.cells #[.int .i64 k1, .string s1, .int .i64 n1, .slice a1 l1 c1, .int .i64 k2, .string s2, .int .i64 n2, .slice a2 l2 c2, .string f] 36 (0, 0)) := by rw [hW]; exact (alloc_old _ _ (by simp)).trans (alloc_at _ _ rfl)
  have k2' : W.heap[w.heap.size + 1]? = some (.cells #[.int .i64 0, .string ⟨#[]⟩, .int .i64 0, .slice none 0 0, .int .i64 0, .string ⟨#[]⟩, .int .i64 0, .slice none 0 0, .string ⟨#[]⟩] 36 (0, 0)) := by rw [hW]; exact alloc_at _ _ (by simp)
  have HC1 : Hid _ := l34_term H W _ (TmIn.keep bW _ _ h1) o1
  have HC2 : Hid (∀ w1, Below w.heap.size w w1 → Calls Tryd.prog 47 #[.agg #[.int .i64 k2, .string s2, .int .i64 n2, .slice a2 l2 c2]] w1 fun e w' => ∃ v' F, e = .returned v' ∧ Own 31 w' B v' F ∧ (∀ x ∈ F, w1.heap.size ≤ x) ∧ F.Nodup ∧ Below w1.heap.size w1 w') := fun w1 hb => l34_term B w1 _ (TmIn.keep hb _ _ h2) o2
  have HBW : Hid (Below w.heap.size w W) := bW
  have HL : Hid (W.heap.size = w.heap.size + 2) := lW
  have HK1 : Hid (W.heap[w.heap.size]? = _) := k1'
  have HK2 : Hid (W.heap[w.heap.size + 1]? = _) := k2'
  clear h1 h2 o1 o2 bW lW k1' k2'
  go_enter Tryd.func28, Tryd.ntmps28
  go_upto_region 1 with fail
  rw [← hW]
  clear hW
  obtain ⟨p, hp⟩ : ∃ p, p = w.heap.size := ⟨_, rfl⟩
  rw [← hp] at HL HK1 HK2 ⊢
  have HPP : Hid (p = w.heap.size) := hp
  clear hp
  obtain ⟨⟨z0, z1, z2, z3, z4, z5, z6, z7, z8⟩, g0, g1, g2, g3, g4, g5, g6, g7, g8⟩ := blk9 HK1.out
  go_upto_region 2 with (go_at_call 47; refine (Calls.mono HC1.out ?_); rintro e w1 ⟨v', F, rfl, o, hf, nd, hb⟩; obtain ⟨k3, s3, n3, a3, l3, c3, rfl⟩ := own_shape o; have HO1 : Hid _ := o; have HF1 : Hid ((∀ x ∈ F, p + 2 ≤ x) ∧ F.Nodup) := ⟨fun x hx => by have := hf x hx; have := HL.out; omega, nd⟩; have HB1 : Hid (Below W.heap.size W w1) := hb; have hk := below_hpS hb HK1.out; have HKP : Hid _ := hk; clear o hf nd hb; clear z0 z1 z2 z3 z4 z5 z6 z7 z8 g0 g1 g2 g3 g4 g5 g6 g7 g8; obtain ⟨⟨z0, z1, z2, z3, z4, z5, z6, z7, z8⟩, g0, g1, g2, g3, g4, g5, g6, g7, g8⟩ := blk9 hk; clear hk)
  clear z0 z1 z2 z3 z4 z5 z6 z7 z8 g0 g1 g2 g3 g4 g5 g6 g7 g8
  obtain ⟨V1, hV1⟩ : ∃ V1, V1 = ((((w1.setCell ⟨p, 0, none⟩ (.int .i64 k3)).setCell ⟨p, 1, none⟩ (.string s3)).setCell ⟨p, 2, none⟩ (.int .i64 n3)).setCell ⟨p, 3, none⟩ (.slice a3 l3 c3)) := ⟨_, rfl⟩
  rw [← hV1]
  have b1 : Below p w V1 := by rw [hV1]; exact blk4_below (by rw [HPP.out]; exact HBW.out.trans (HB1.out.mono HBW.out.size)) (Nat.le_refl _)
  have hk1 : V1.heap[p]? = some (.cells #[.int .i64 k3, .string s3, .int .i64 n3, .slice a3 l3 c3, .int .i64 k2, .string s2, .int .i64 n2, .slice a2 l2 c2, .string f] 36 (0, 0)) := by rw [hV1]; exact blk9_set4a HKP.out
  have hk2 : V1.heap[p + 1]? = some (.cells #[.int .i64 0, .string ⟨#[]⟩, .int .i64 0, .slice none 0 0, .int .i64 0, .string ⟨#[]⟩, .int .i64 0, .slice none 0 0, .string ⟨#[]⟩] 36 (0, 0)) := by rw [hV1]; exact (blk4_other (by omega)).trans (below_hpS HB1.out HK2.out)
  have hs1 : V1.heap.size = w1.heap.size := by rw [hV1]; simp [World.setCell]
  have HOV : Hid (Own 31 V1 H (.agg #[.int .i64 k3, .string s3, .int .i64 n3, .slice a3 l3 c3]) F) := by rw [hV1]; exact Own.keep _ _ _ HO1.out fun x hx => blk4_other (by have := HF1.out.1 x hx; omega)
  have HS1 : Hid (∀ x ∈ F, x < V1.heap.size) := fun x hx => by rw [hs1]; exact Own.lt _ _ _ HO1.out x hx
  have HB1V : Hid (Below w.heap.size w V1) := by show Below _ _ _; rw [← HPP.out]; exact b1
  have HP1 : Hid (p + 2 ≤ V1.heap.size) := by have := HB1.out.size; have := HL.out; show _ ≤ _; omega
  have HK3 : Hid _ := hk1
  have HK4 : Hid _ := hk2
  have HC3 : Hid _ := HC2.out V1 HB1V.out
  clear hV1 b1 hs1 hk2 HKP HO1 HB1
  obtain ⟨⟨z0, z1, z2, z3, z4, z5, z6, z7, z8⟩, g0, g1, g2, g3, g4, g5, g6, g7, g8⟩ := blk9 hk1
  clear hk1
  go_upto_region 3 with (go_at_call 47; refine (Calls.mono HC3.out ?_); rintro e w2 ⟨v', G, rfl, o, hf, nd, hb⟩; obtain ⟨k4, s4, n4, a4, l4, c4, rfl⟩ := own_shape o; have HO2 : Hid _ := o; have HG : Hid ((∀ x ∈ G, V1.heap.size ≤ x) ∧ G.Nodup) := ⟨hf, nd⟩; have HB2 : Hid (Below V1.heap.size V1 w2) := hb; have hk := below_hpS hb HK3.out; have HKP : Hid _ := hk; clear o hf nd hb; clear z0 z1 z2 z3 z4 z5 z6 z7 z8 g0 g1 g2 g3 g4 g5 g6 g7 g8; obtain ⟨⟨z0, z1, z2, z3, z4, z5, z6, z7, z8⟩, g0, g1, g2, g3, g4, g5, g6, g7, g8⟩ := blk9 hk; clear hk)
  clear z0 z1 z2 z3 z4 z5 z6 z7 z8 g0 g1 g2 g3 g4 g5 g6 g7 g8
  obtain ⟨V2, hV2⟩ : ∃ V2, V2 = ((((w2.setCell ⟨p, 4, none⟩ (.int .i64 k4)).setCell ⟨p, 5, none⟩ (.string s4)).setCell ⟨p, 6, none⟩ (.int .i64 n4)).setCell ⟨p, 7, none⟩ (.slice a4 l4 c4)) := ⟨_, rfl⟩
  rw [← hV2]
  have b2 : Below p w V2 := by rw [hV2]; exact below_set (below_set (below_set (below_set (by have := HB1V.out; rw [← HPP.out] at this; exact this.trans (HB2.out.mono (by have := HP1.out; omega))) (Nat.le_refl _) _) (Nat.le_refl _) _) (Nat.le_refl _) _) (Nat.le_refl _) _
  have hk1 : V2.heap[p]? = some (.cells #[.int .i64 k3, .string s3, .int .i64 n3, .slice a3 l3 c3, .int .i64 k4, .string s4, .int .i64 n4, .slice a4 l4 c4, .string f] 36 (0, 0)) := by rw [hV2]; exact blk9_set4b HKP.out
  have hk2 : V2.heap[p + 1]? = some (.cells #[.int .i64 0, .string ⟨#[]⟩, .int .i64 0, .slice none 0 0, .int .i64 0, .string ⟨#[]⟩, .int .i64 0, .slice none 0 0, .string ⟨#[]⟩] 36 (0, 0)) := by rw [hV2]; exact (set4b_other (by omega)).trans (below_hpS HB2.out HK4.out)
  have HO3 : Hid (Own 31 V2 H (.agg #[.int .i64 k3, .string s3, .int .i64 n3, .slice a3 l3 c3]) F) := by rw [hV2]; exact Own.keep _ _ _ HOV.out fun x hx => (set4b_other (by have := HF1.out.1 x hx; omega)).trans (HB2.out.block x (HS1.out x hx))
  have HO4 : Hid (Own 31 V2 B (.agg #[.int .i64 k4, .string s4, .int .i64 n4, .slice a4 l4 c4]) G) := by rw [hV2]; exact Own.keep _ _ _ HO2.out fun x hx => set4b_other (by have := HG.out.1 x hx; have := HP1.out; omega)
  have HFIN : Hid (∀ d0 d1 d2 d3 d4 d5 d6 d7 d8, Own 31 (set9 V2 (p + 1) d0 d1 d2 d3 d4 d5 d6 d7 d8) H (.agg #[.int .i64 k3, .string s3, .int .i64 n3, .slice a3 l3 c3]) F ∧ Own 31 (set9 V2 (p + 1) d0 d1 d2 d3 d4 d5 d6 d7 d8) B (.agg #[.int .i64 k4, .string s4, .int .i64 n4, .slice a4 l4 c4]) G ∧
      (∀ x ∈ F, p ≤ x) ∧ (∀ x ∈ G, p ≤ x) ∧ F.Nodup ∧ G.Nodup ∧ (∀ x ∈ G, x ∉ F) ∧ Below p w (set9 V2 (p + 1) d0 d1 d2 d3 d4 d5 d6 d7 d8)) := fun d0 d1 d2 d3 d4 d5 d6 d7 d8 =>
    ⟨Own.keep _ _ _ HO3.out fun x hx => blk9_other (by have := HF1.out.1 x hx; omega), Own.keep _ _ _ HO4.out fun x hx => blk9_other (by have := HG.out.1 x hx; have := HP1.out; omega), fun x hx => by have := HF1.out.1 x hx; omega, fun x hx => by have := HG.out.1 x hx; have := HP1.out; omega, HF1.out.2, HG.out.2, fun x hx h => by have := HG.out.1 x hx; have := HS1.out x h; omega, blk9_below b2 (by omega)⟩
  have HZ : Hid _ := hk2
  clear hV2 b2 HKP HO2 HOV
  obtain ⟨⟨z0, z1, z2, z3, z4, z5, z6, z7, z8⟩, _⟩ := blk9 hk1
  obtain ⟨⟨cc0, cc1, cc2, cc3, cc4, cc5, cc6, cc7, cc8⟩, g0, g1, g2, g3, g4, g5, g6, g7, g8⟩ := blk9 hk2
  clear hk1 hk2
  go_wp2
  refine bodyPost_ret_by (results_cell_row rfl _ _ (p + 1) 36 _ (0, 0) _ rfl (blk9_set HZ.out) Tryd.underlying36 rfl (by kernel_rfl)) rfl ?_
  rw [← HPP.out]
  exact ⟨_, _, _, _, _, _, _, _, _, _, _, _, F, G, rfl, HFIN.out _ _ _ _ _ _ _ _ _⟩

theorem cl_wt {t : Tm} : (clH t).wt ≤ 1048576 ∧ (clBd t).wt ≤ 1048576 := by
  unfold clH clBd
  cases h : clB t with
  | false => exact ⟨by show zeroC.wt ≤ _; decide, by show zeroC.wt ≤ _; decide⟩
  | true =>
    have h1 : t.ok = true := by unfold clB at h; rw [Bool.and_eq_true] at h; exact h.1
    have := ok_wt (cut_ok h1).1
    have := ok_wt (cut_ok h1).2
    exact ⟨by show (cutC t).1.wt ≤ _; omega, by show (cutC t).2.wt ≤ _; omega⟩

set_option maxHeartbeats 4000000 in
set_option maxRecDepth 20000 in
theorem s_clauseOf (t : Tm) (f : ByteArray) (v : Value) (w : World) (hin : TmIn w t v) :
    Calls Tryd.prog 13 #[v, .string f] w (ClOut 31 (clH t) (clBd t) (clF t f) (clB t) w) := by
  obtain ⟨k, s, n, ao, l, cap, rfl⟩ := tm_shape hin
  obtain ⟨W, hW⟩ : ∃ W, W = (w.alloc (.cells #[.int .i64 k, .string s, .int .i64 n, .slice ao l cap] 31)).alloc (.cells #[.int .i64 0, .string ⟨#[]⟩, .int .i64 0, .slice none 0 0, .int .i64 0, .string ⟨#[]⟩, .int .i64 0, .slice none 0 0, .string ⟨#[]⟩] 36) := ⟨_, rfl⟩
  have bW : Below w.heap.size w W := by rw [hW]; exact ((Below.refl _ _).alloc (Nat.le_refl _) _).alloc (by simp) _
  have lW : W.heap.size = w.heap.size + 2 := by rw [hW]; simp
  have k1 : W.heap[w.heap.size]? = some (.cells #[.int .i64 k, .string s, .int .i64 n, .slice ao l cap] 31 (0, 0)) := by rw [hW]; exact (alloc_old _ _ (by simp)).trans (alloc_at _ _ rfl)
  have k2 : W.heap[w.heap.size + 1]? = some (.cells #[.int .i64 0, .string ⟨#[]⟩, .int .i64 0, .slice none 0 0, .int .i64 0, .string ⟨#[]⟩, .int .i64 0, .slice none 0 0, .string ⟨#[]⟩] 36 (0, 0)) := by rw [hW]; exact alloc_at _ _ (by simp)
  have HRAW0 := s_clauseRaw t f _ W (TmIn.keep bW _ _ hin)
  have hw := cl_wt (t := t)
  obtain ⟨H, hH⟩ : ∃ H, H = clH t := ⟨_, rfl⟩
  obtain ⟨B, hB⟩ : ∃ B, B = clBd t := ⟨_, rfl⟩
  obtain ⟨g, hg⟩ : ∃ g, g = clF t f := ⟨_, rfl⟩
  obtain ⟨b, hb⟩ : ∃ b, b = clB t := ⟨_, rfl⟩
  rw [← hH, ← hB, ← hg, ← hb] at HRAW0 ⊢
  rw [← hH, ← hB] at hw
  unfold ClIn at HRAW0
  have HRAW : Hid _ := HRAW0
  have HW9 : Hid (H.wt ≤ 1048576 ∧ B.wt ≤ 1048576) := hw
  have HK1 : Hid _ := k1
  have HK2 : Hid _ := k2
  have HBW : Hid (Below w.heap.size w W) := bW
  have HL : Hid (W.heap.size = w.heap.size + 2) := lW
  clear hin HRAW0 hw hH hB hg hb k1 k2 bW lW
  go_enter Tryd.func13, Tryd.ntmps13
  go_upto_region 1 with fail
  rw [← hW]
  clear hW
  obtain ⟨q0, q1, q2, q3, _⟩ := blk4 HK1.out
  go_upto_region 2 with (go_at_call 27; refine (Calls.mono HRAW.out ?_); rintro e w1 ⟨k1, s1, n1, a1, l1, c1, k2, s2, n2, a2, l2, c2, rfl, th, tb, hb⟩; have HTH : Hid _ := th; have HTB : Hid _ := tb; have HB1 : Hid (Below W.heap.size W w1) := hb; clear th tb hb)
  clear q0 q1 q2 q3
  obtain ⟨U, hU⟩ : ∃ U, U = w1.alloc (.cells #[.int .i64 k1, .string s1, .int .i64 n1, .slice a1 l1 c1, .int .i64 k2, .string s2, .int .i64 n2, .slice a2 l2 c2, .string g] 36) := ⟨_, rfl⟩
  rw [← hU]
  have bU : Below w1.heap.size w1 U := by rw [hU]; exact (Below.refl _ _).alloc (Nat.le_refl _) _
  have kU : U.heap[w1.heap.size]? = some (.cells #[.int .i64 k1, .string s1, .int .i64 n1, .slice a1 l1 c1, .int .i64 k2, .string s2, .int .i64 n2, .slice a2 l2 c2, .string g] 36 (0, 0)) := by rw [hU]; exact heap_alloc_new _ _
  have HBU : Hid (Below W.heap.size W U) := HB1.out.trans (bU.mono HB1.out.size)
  have HLC : Hid _ := l34_clause H B g U _ _ _ _ _ _ _ _ _ _ _ _ (TmIn.keep bU _ _ HTH.out) (TmIn.keep bU _ _ HTB.out) HW9.out.1 HW9.out.2
  obtain ⟨⟨z0, z1, z2, z3, z4, z5, z6, z7, z8⟩, _⟩ := blk9 kU
  clear hU bU kU HTH HTB
  go_wp2_with (go_at_call 28; refine (Calls.mono HLC.out ?_); rintro e w2 ⟨k3, s3, n3, a3, l3, c3, k4, s4, n4, a4, l4, c4, F, G, rfl, o1, o2, f1, f2, d1, d2, d3, hb⟩; have HO : Hid _ := (And.intro o1 (And.intro o2 (And.intro f1 (And.intro f2 (And.intro d1 (And.intro d2 d3)))))); have HB2 : Hid (Below W.heap.size W w2) := HBU.out.trans (hb.mono HBU.out.size); have hk := below_hpS HB2.out HK2.out; have HZ : Hid _ := hk; obtain ⟨⟨cc0, cc1, cc2, cc3, cc4, cc5, cc6, cc7, cc8⟩, g0, g1, g2, g3, g4, g5, g6, g7, g8⟩ := blk9 hk; clear o1 o2 f1 f2 d1 d2 d3 hb hk)
  refine bodyPost_ret_by (results_ctx rfl _ _ (w.heap.size + 1) 36 _ (0, 0) _ rfl (blk9_set HZ.out) Tryd.underlying36 rfl (by kernel_rfl)) rfl ?_
  have hend : ∀ d0 d1 d2 d3 d4 d5 d6 d7 d8, ClOut 31 H B g b w (.returned (.tuple #[.agg #[.int .i64 k3, .string s3, .int .i64 n3, .slice a3 l3 c3, .int .i64 k4, .string s4, .int .i64 n4, .slice a4 l4 c4, .string g], .bool b])) (set9 w2 (w.heap.size + 1) d0 d1 d2 d3 d4 d5 d6 d7 d8) := fun d0 d1 d2 d3 d4 d5 d6 d7 d8 => by
    obtain ⟨o1, o2, f1, f2, d1, d2, d3⟩ := HO.out
    have hl := HL.out
    have hs := HBU.out.size
    exact ⟨_, _, _, _, _, _, _, _, _, _, _, _, F, G, rfl, Own.keep _ _ _ o1 fun x hx => blk9_other (by have := f1 x hx; omega), Own.keep _ _ _ o2 fun x hx => blk9_other (by have := f2 x hx; omega), fun x hx => by have := f1 x hx; omega, fun x hx => by have := f2 x hx; omega, d1, d2, d3, blk9_below (HBW.out.trans (HB2.out.mono HBW.out.size)) (by omega)⟩
  exact hend _ _ _ _ _ _ _ _ _
end Go.Proofs.YtenmhpalpfppmaoDoor
