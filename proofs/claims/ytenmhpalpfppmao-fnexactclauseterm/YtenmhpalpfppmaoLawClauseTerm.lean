/- FnExactClauseTerm answers true at every clause: the code's ClauseTerm answers as the specification's, leaves the clause as it was, and its answer owns its memory. No condition. -/
import Derived.Test.YtenmhpalpfppmaoMrg1
import Derived.Test.YtenmhpalpfppmaoMrg2
import Derived.Test.YtenmhpalpfppmaoMrg3
import Derived.Test.YtenmhpalpfppmaoMrg6
import Derived.Test.YtenmhpalpfppmaoCtI
import Derived.Test.YtenmhpalpfppmaoClEq
import Derived.Test.YtenmhpalpfppmaoClMark
import Derived.Test.YtenmhpalpfppmaoTmEq
import Derived.Test.YtenmhpalpfppmaoTmHeld
import Derived.Test.YtenmhpalpfppmaoRegFact
import Derived.Deep.RegionWith
import Derived.Deep.DeepCutAuto
import Derived.ChangeOld
namespace Go.Proofs.Ytenmhpalpfppmao.fnExactClauseTerm
open Go.ChangeShapes Go.WideShapes Go.ChangeAt Go.RowKit

set_option maxHeartbeats 8000000 in
set_option maxRecDepth 20000 in
theorem walk (H B : Tm) (f : ByteArray) (hf : f.size ≤ maxLen) (w : World) (k1 s1 n1 a1 l1 c1 k2 s2 n2 a2 l2 c2) (i1 : TmIn w H (.agg #[.int .i64 k1, .string s1, .int .i64 n1, .slice a1 l1 c1])) (i2 : TmIn w B (.agg #[.int .i64 k2, .string s2, .int .i64 n2, .slice a2 l2 c2])) :
    Calls Try.prog 4 #[.agg #[.int .i64 k1, .string s1, .int .i64 n1, .slice a1 l1 c1, .int .i64 k2, .string s2, .int .i64 n2, .slice a2 l2 c2, .string f]] w fun e w' => e = .returned (.bool true) ∧ Below w.heap.size w w' := by
  obtain ⟨W, hW⟩ : ∃ W, W = w.alloc (.cells #[.int .i64 k1, .string s1, .int .i64 n1, .slice a1 l1 c1, .int .i64 k2, .string s2, .int .i64 n2, .slice a2 l2 c2, .string f] 27) := ⟨_, rfl⟩
  have bW : Below w.heap.size w W := by rw [hW]; exact (Below.refl _ _).alloc (Nat.le_refl _) _
  have lW : W.heap.size = w.heap.size + 1 := by rw [hW]; simp
  have q1 : W.heap[w.heap.size]? = some (.cells #[.int .i64 k1, .string s1, .int .i64 n1, .slice a1 l1 c1, .int .i64 k2, .string s2, .int .i64 n2, .slice a2 l2 c2, .string f] 27 (0, 0)) := by rw [hW]; exact heap_alloc_new w _
  have HARG : Hid (∀ w', Below W.heap.size W w' → TmIn w' H (.agg #[.int .i64 k1, .string s1, .int .i64 n1, .slice a1 l1 c1]) ∧ TmIn w' B (.agg #[.int .i64 k2, .string s2, .int .i64 n2, .slice a2 l2 c2]) ∧ (w'.cell? ⟨w.heap.size, 0, none⟩ = some (.int .i64 k1) ∧ w'.cell? ⟨w.heap.size, 1, none⟩ = some (.string s1) ∧ w'.cell? ⟨w.heap.size, 2, none⟩ = some (.int .i64 n1) ∧ w'.cell? ⟨w.heap.size, 3, none⟩ = some (.slice a1 l1 c1) ∧ w'.cell? ⟨w.heap.size, 4, none⟩ = some (.int .i64 k2) ∧ w'.cell? ⟨w.heap.size, 5, none⟩ = some (.string s2) ∧ w'.cell? ⟨w.heap.size, 6, none⟩ = some (.int .i64 n2) ∧ w'.cell? ⟨w.heap.size, 7, none⟩ = some (.slice a2 l2 c2) ∧ w'.cell? ⟨w.heap.size, 8, none⟩ = some (.string f))) := fun w' hb =>
    ⟨TmIn.keep hb _ _ (TmIn.keep bW _ _ i1), TmIn.keep hb _ _ (TmIn.keep bW _ _ i2), (blk9 ((hb.block _ (by omega)).trans q1)).1⟩
  have HSZ := sz_clause H B f W 1048576 _ _ _ _ _ _ _ _ _ _ _ _ (TmIn.keep bW _ _ i1) (TmIn.keep bW _ _ i2) hf (Nat.le_refl _)
  have HBW : Hid (Below w.heap.size w W) := bW
  clear i1 i2 q1 bW lW hf
  by_cases hwt : H.wt + B.wt + f.size ≤ 1048576
  · rw [show szR (H.wt + B.wt + f.size) 1048576 = ((1048576 - (H.wt + B.wt + f.size) : Nat) : Int) from if_pos hwt, hW] at HSZ
    replace HSZ : Hid _ := HSZ
    have hl : ¬ ((1048576 - (H.wt + B.wt + f.size) : Nat) : Int) < 0 := by omega
    generalize ((1048576 - (H.wt + B.wt + f.size) : Nat) : Int) = L1 at *
    have HTO : Hid (∀ w1 k13 s13 n13 a13 l13 c13 k14 s14 n14 a14 l14 c14, TmIn w1 H (.agg #[.int .i64 k13, .string s13, .int .i64 n13, .slice a13 l13 c13]) → TmIn w1 B (.agg #[.int .i64 k14, .string s14, .int .i64 n14, .slice a14 l14 c14]) → Calls Try.prog 9 #[.agg #[.int .i64 k13, .string s13, .int .i64 n13, .slice a13 l13 c13, .int .i64 k14, .string s14, .int .i64 n14, .slice a14 l14 c14, .string f]] w1 fun e w' => ∃ k s n ao l c k' s' n' ao' l' c' F G, e = .returned (.agg #[.int .i64 k, .string s, .int .i64 n, .slice ao l c, .int .i64 k', .string s', .int .i64 n', .slice ao' l' c', .string f]) ∧ Own 31 w' H (.agg #[.int .i64 k, .string s, .int .i64 n, .slice ao l c]) F ∧ Own 31 w' B (.agg #[.int .i64 k', .string s', .int .i64 n', .slice ao' l' c']) G ∧ (∀ x ∈ F, w1.heap.size ≤ x) ∧ (∀ x ∈ G, w1.heap.size ≤ x) ∧ F.Nodup ∧ G.Nodup ∧ (∀ x ∈ G, x ∉ F) ∧ Below w1.heap.size w1 w') := fun w1 k13 s13 n13 a13 l13 c13 k14 s14 n14 a14 l14 c14 h1 h2 => to_clause H B f w1 _ _ _ _ _ _ _ _ _ _ _ _ h1 h2 (by omega) (by omega)
    have HSP0 : ∀ w1 k13 s13 n13 a13 l13 c13 k14 s14 n14 a14 l14 c14, TmIn w1 H (.agg #[.int .i64 k13, .string s13, .int .i64 n13, .slice a13 l13 c13]) → TmIn w1 B (.agg #[.int .i64 k14, .string s14, .int .i64 n14, .slice a14 l14 c14]) → Calls Try.prog 8 #[.agg #[.int .i64 k13, .string s13, .int .i64 n13, .slice a13 l13 c13, .int .i64 k14, .string s14, .int .i64 n14, .slice a14 l14 c14, .string f]] w1 fun e w' => ∃ v' F, e = .returned v' ∧ Own 31 w' (Tm.mk 4 cIf 0 [H, B]) v' F ∧ (∀ x ∈ F, w1.heap.size ≤ x) ∧ F.Nodup ∧ Below w1.heap.size w1 w' := fun w1 k13 s13 n13 a13 l13 c13 k14 s14 n14 a14 l14 c14 h1 h2 => s_clauseTerm H B f w1 _ _ _ _ _ _ _ _ _ _ _ _ h1 h2 (by omega)
    have HIM0 : ∀ w1 k13 s13 n13 a13 l13 c13 k14 s14 n14 a14 l14 c14 F G, Own 31 w1 H (.agg #[.int .i64 k13, .string s13, .int .i64 n13, .slice a13 l13 c13]) F → Own 31 w1 B (.agg #[.int .i64 k14, .string s14, .int .i64 n14, .slice a14 l14 c14]) G → F.Nodup → G.Nodup → (∀ x ∈ G, x ∉ F) → Calls Try.prog 10 #[.agg #[.int .i64 k13, .string s13, .int .i64 n13, .slice a13 l13 c13, .int .i64 k14, .string s14, .int .i64 n14, .slice a14 l14 c14, .string f]] w1 fun e w' => ∃ v' F, e = .returned v' ∧ Own 31 w' (Tm.mk 4 cIf 0 [H, B]) v' F ∧ (∀ x ∈ F, w1.heap.size ≤ x) ∧ F.Nodup ∧ Below w1.heap.size w1 w' := fun w1 k13 s13 n13 a13 l13 c13 k14 s14 n14 a14 l14 c14 F G h1 h2 h3 h4 h5 => i_clauseTerm H B f w1 _ _ _ _ _ _ _ _ _ _ _ _ F G h1 h2 h3 h4 h5 (by omega)
    have hns : ns H.kids ≤ 1048576 ∧ ns B.kids ≤ 1048576 ∧ ns (Tm.kids (Tm.mk 4 cIf 0 [H, B])) ≤ 2097152 := by
      have hk : ∀ u : Tm, ns u.kids + 1 = u.n := fun u => by
        obtain ⟨k, s, n, ks⟩ := u
        rw [n_mk]
        show ns ks + 1 = 1 + ns ks
        omega
      have h1 := n_le_wt H
      have h2 := n_le_wt B
      have h3 := hk H
      have h4 := hk B
      have e : ns (Tm.kids (Tm.mk 4 cIf 0 [H, B])) = H.n + B.n := by show ns [H, B] = _; simp [ns, Tm.n.ns]
      omega
    obtain ⟨R, hR⟩ : ∃ R, R = (Tm.mk 4 cIf 0 [H, B]) := ⟨_, rfl⟩
    rw [← hR] at HSP0 HIM0 hns
    have HSP : Hid _ := HSP0
    have HIM : Hid _ := HIM0
    have HNS : Hid (ns H.kids ≤ 1048576 ∧ ns B.kids ≤ 1048576 ∧ ns R.kids ≤ 2097152) := hns
    clear hwt hR HSP0 HIM0 hns
    go_enter Try.func4, Try.ntmps4
    go_upto_region 5 with (go_at_call 7; refine (Calls.mono HSZ.out ?_); rintro e w1 ⟨rfl, hb⟩; rw [← hW] at hb; have HB : Hid (Below W.heap.size W w1) := hb; clear hb)
    -- w0
    obtain ⟨g1, g2, ⟨y0, y1, y2, y3, y4, y5, y6, y7, y8⟩⟩ := HARG.out w1 HB.out
    have HC1 : Hid _ := HTO.out w1 _ _ _ _ _ _ _ _ _ _ _ _ g1 g2
    clear g1 g2 hW HSZ
    go_upto_region 6 with (first
      | (go_at_call 9; refine (Calls.mono HC1.out ?_); rintro e w2 ⟨k15, s15, n15, a15, l15, c15, k16, s16, n16, a16, l16, c16, F1, G1, rfl, o1, o2, _, _, _, _, _, hb⟩; have HB2 : Hid (Below W.heap.size W w2) := HB.out.trans (hb.mono HB.out.size); have HC2 : Hid _ := HSP.out w2 _ _ _ _ _ _ _ _ _ _ _ _ (Own.toIn _ _ _ o1) (Own.toIn _ _ _ o2); clear o1 o2 hb)
      | (go_at_call 8; refine (Calls.mono HC2.out ?_); rintro e w3 ⟨v3, F3, rfl, o3, _, _, hb⟩; obtain ⟨k3, s3, n3, a3, l3, c3, rfl⟩ := own_shape o3; have T3 : Hid (TmIn w3 R (.agg #[.int .i64 k3, .string s3, .int .i64 n3, .slice a3 l3 c3])) := Own.toIn _ _ _ o3; have HB3 : Hid (Below W.heap.size W w3) := HB2.out.trans (hb.mono HB2.out.size); clear o3 hb))
    clear y0 y1 y2 y3 y4 y5 y6 y7 y8 HC1 HC2
    obtain ⟨W3, hW3⟩ : ∃ W3, W3 = w3.alloc (.cells #[.int .i64 k3, .string s3, .int .i64 n3, .slice a3 l3 c3] 31) := ⟨_, rfl⟩
    rw [← hW3]
    have bW3 : Below w3.heap.size w3 W3 := by rw [hW3]; exact (Below.refl _ _).alloc (Nat.le_refl _) _
    have k6 : W3.heap[w3.heap.size]? = some (.cells #[.int .i64 k3, .string s3, .int .i64 n3, .slice a3 l3 c3] 31 (0, 0)) := by rw [hW3]; exact heap_alloc_new _ _
    have sW3 : W3.heap.size = w3.heap.size + 1 := by rw [hW3]; simp
    obtain ⟨p6, hp6⟩ : ∃ p6, p6 = w3.heap.size := ⟨_, rfl⟩
    have HBB : Hid (Below W.heap.size W W3) := HB3.out.trans (bW3.mono HB3.out.size)
    have t6 : TmIn W3 R (.agg #[.int .i64 k3, .string s3, .int .i64 n3, .slice a3 l3 c3]) := TmIn.keep bW3 _ _ T3.out
    rw [← hp6] at k6 sW3 ⊢
    have H6 : Hid (∀ w', Below W3.heap.size W3 w' → w'.cell? ⟨p6, 0, none⟩ = some (.int .i64 k3) ∧ w'.cell? ⟨p6, 1, none⟩ = some (.string s3) ∧ w'.cell? ⟨p6, 2, none⟩ = some (.int .i64 n3) ∧ w'.cell? ⟨p6, 3, none⟩ = some (.slice a3 l3 c3) ∧ TmIn w' R (.agg #[.int .i64 k3, .string s3, .int .i64 n3, .slice a3 l3 c3])) := fun w' hb => by
      obtain ⟨q0, q1, q2, q3, _⟩ := blk4 ((hb.block p6 (by omega)).trans k6)
      exact ⟨q0, q1, q2, q3, TmIn.keep hb _ _ t6⟩
    clear hW3 bW3 k6 sW3 hp6 t6 T3 HB3 HB2 HB
    -- x0
    obtain ⟨g1, g2, ⟨y0, y1, y2, y3, y4, y5, y6, y7, y8⟩⟩ := HARG.out W3 HBB.out
    have HC7 : Hid _ := HTO.out W3 _ _ _ _ _ _ _ _ _ _ _ _ g1 g2
    clear g1 g2
    go_upto_region 7 with (go_at_call 9; refine (Calls.mono HC7.out ?_); rintro e w4 ⟨k7, s7, n7, a7, l7, c7, k8, s8, n8, a8, l8, c8, F7, G7, rfl, o7, o8, f7, f8, nd7, nd8, dj, b7⟩; have O7 : Hid (Own 31 w4 H (.agg #[.int .i64 k7, .string s7, .int .i64 n7, .slice a7 l7 c7]) F7 ∧ Own 31 w4 B (.agg #[.int .i64 k8, .string s8, .int .i64 n8, .slice a8 l8 c8]) G7) := ⟨o7, o8⟩; have N7 : Hid ((∀ x ∈ F7, W3.heap.size ≤ x) ∧ (∀ x ∈ G7, W3.heap.size ≤ x) ∧ F7.Nodup ∧ G7.Nodup ∧ (∀ x ∈ G7, x ∉ F7)) := ⟨f7, f8, nd7, nd8, dj⟩; have B7 : Hid (Below W3.heap.size W3 w4) := b7; clear o7 o8 f7 f8 nd7 nd8 dj b7)
    clear y0 y1 y2 y3 y4 y5 y6 y7 y8
    obtain ⟨W4, hW4⟩ : ∃ W4, W4 = w4.alloc (.cells #[.int .i64 k7, .string s7, .int .i64 n7, .slice a7 l7 c7, .int .i64 k8, .string s8, .int .i64 n8, .slice a8 l8 c8, .string f] 34) := ⟨_, rfl⟩
    rw [← hW4]
    have bW4 : Below w4.heap.size w4 W4 := by rw [hW4]; exact (Below.refl _ _).alloc (Nat.le_refl _) _
    have k7b : W4.heap[w4.heap.size]? = some (.cells #[.int .i64 k7, .string s7, .int .i64 n7, .slice a7 l7 c7, .int .i64 k8, .string s8, .int .i64 n8, .slice a8 l8 c8, .string f] 34 (0, 0)) := by rw [hW4]; exact heap_alloc_new _ _
    have HB4 : Hid (Below W3.heap.size W3 W4) := B7.out.trans (bW4.mono B7.out.size)
    have O7' : Hid (Own 31 W4 H (.agg #[.int .i64 k7, .string s7, .int .i64 n7, .slice a7 l7 c7]) F7 ∧ Own 31 W4 B (.agg #[.int .i64 k8, .string s8, .int .i64 n8, .slice a8 l8 c8]) G7) := ⟨Own.keep _ _ _ O7.out.1 fun x hx => bW4.block x (Own.lt _ _ _ O7.out.1 x hx), Own.keep _ _ _ O7.out.2 fun x hx => bW4.block x (Own.lt _ _ _ O7.out.2 x hx)⟩
    have L7 : Hid (∀ x ∈ F7 ++ G7, x < w4.heap.size) := fun x hx => by
      rcases List.mem_append.1 hx with hx | hx
      · exact Own.lt _ _ _ O7.out.1 x hx
      · exact Own.lt _ _ _ O7.out.2 x hx
    have M7 : Hid (∀ x ∈ F7 ++ G7, W3.heap.size ≤ x) := fun x hx => by
      rcases List.mem_append.1 hx with hx | hx
      · exact N7.out.1 x hx
      · exact N7.out.2.1 x hx
    have sW4 : W4.heap.size = w4.heap.size + 1 := by rw [hW4]; simp
    have hs34 : W3.heap.size ≤ w4.heap.size := B7.out.size
    obtain ⟨p7, hp7⟩ : ∃ p7, p7 = w4.heap.size := ⟨_, rfl⟩
    rw [← hp7] at k7b sW4 L7 hs34 ⊢
    have K7 : Hid (W4.heap[p7]? = some (.cells #[.int .i64 k7, .string s7, .int .i64 n7, .slice a7 l7 c7, .int .i64 k8, .string s8, .int .i64 n8, .slice a8 l8 c8, .string f] 34 (0, 0))) := k7b
    clear hW4 bW4 k7b O7 B7 hp7 HC7
    -- g0
    obtain ⟨⟨e0, e1, e2, e3, e4, e5, e6, e7, e8⟩, _⟩ := blk9 K7.out
    have HC9 : Hid _ := HIM.out W4 _ _ _ _ _ _ _ _ _ _ _ _ F7 G7 O7'.out.1 O7'.out.2 N7.out.2.2.1 N7.out.2.2.2.1 N7.out.2.2.2.2
    go_upto_region 8 with (go_at_call 10; refine (Calls.mono HC9.out ?_); rintro e w6 ⟨v9, F9, rfl, o9, f9, nd9, b9⟩; obtain ⟨k9, s9, n9, a9, l9, c9, rfl⟩ := own_shape o9; have O9 : Hid (Own 31 w6 R (.agg #[.int .i64 k9, .string s9, .int .i64 n9, .slice a9 l9 c9]) F9) := o9; have N9 : Hid ((∀ x ∈ F9, W4.heap.size ≤ x) ∧ F9.Nodup) := ⟨f9, nd9⟩; have B9 : Hid (Below W4.heap.size W4 w6) := b9; clear o9 f9 nd9 b9)
    obtain ⟨W6, hW6⟩ : ∃ W6, W6 = w6.alloc (.cells #[.int .i64 k9, .string s9, .int .i64 n9, .slice a9 l9 c9] 31) := ⟨_, rfl⟩
    rw [← hW6]
    have bW6 : Below w6.heap.size w6 W6 := by rw [hW6]; exact (Below.refl _ _).alloc (Nat.le_refl _) _
    have k9b : W6.heap[w6.heap.size]? = some (.cells #[.int .i64 k9, .string s9, .int .i64 n9, .slice a9 l9 c9] 31 (0, 0)) := by rw [hW6]; exact heap_alloc_new _ _
    have HB6 : Hid (Below W4.heap.size W4 W6) := B9.out.trans (bW6.mono B9.out.size)
    have O9' : Hid (Own 31 W6 R (.agg #[.int .i64 k9, .string s9, .int .i64 n9, .slice a9 l9 c9]) F9) := Own.keep _ _ _ O9.out fun x hx => bW6.block x (Own.lt _ _ _ O9.out x hx)
    have L9 : Hid (∀ x ∈ F9, x < w6.heap.size) := Own.lt _ _ _ O9.out
    have sW6 : W6.heap.size = w6.heap.size + 1 := by rw [hW6]; simp
    have hs46 : W4.heap.size ≤ w6.heap.size := B9.out.size
    obtain ⟨p9, hp9⟩ : ∃ p9, p9 = w6.heap.size := ⟨_, rfl⟩
    rw [← hp9] at k9b sW6 L9 hs46 ⊢
    have K9 : Hid (W6.heap[p9]? = some (.cells #[.int .i64 k9, .string s9, .int .i64 n9, .slice a9 l9 c9] 31 (0, 0))) := k9b
    have O7b : Hid (Own 31 W6 H (.agg #[.int .i64 k7, .string s7, .int .i64 n7, .slice a7 l7 c7]) F7 ∧ Own 31 W6 B (.agg #[.int .i64 k8, .string s8, .int .i64 n8, .slice a8 l8 c8]) G7) := ⟨Own.keep _ _ _ O7'.out.1 fun x hx => HB6.out.block x (Own.lt _ _ _ O7'.out.1 x hx), Own.keep _ _ _ O7'.out.2 fun x hx => HB6.out.block x (Own.lt _ _ _ O7'.out.2 x hx)⟩
    have K7b : Hid (W6.heap[p7]? = some (.cells #[.int .i64 k7, .string s7, .int .i64 n7, .slice a7 l7 c7, .int .i64 k8, .string s8, .int .i64 n8, .slice a8 l8 c8, .string f] 34 (0, 0))) := (HB6.out.block p7 (by omega)).trans K7.out
    have HB36 : Hid (Below W3.heap.size W3 W6) := HB4.out.trans (HB6.out.mono HB4.out.size)
    clear hW6 bW6 k9b O9 B9 hp9 HC9 e0 e1 e2 e3 e4 e5 e6 e7 e8 O7' K7
    have HALL : Hid (∀ w', Out ((F7 ++ G7) ++ F9) W6 w' → Below W3.heap.size W3 w' ∧ (w'.cell? ⟨p7, 0, none⟩ = some (.int .i64 k7) ∧ w'.cell? ⟨p7, 1, none⟩ = some (.string s7) ∧ w'.cell? ⟨p7, 2, none⟩ = some (.int .i64 n7) ∧ w'.cell? ⟨p7, 3, none⟩ = some (.slice a7 l7 c7) ∧ w'.cell? ⟨p7, 4, none⟩ = some (.int .i64 k8) ∧ w'.cell? ⟨p7, 5, none⟩ = some (.string s8) ∧ w'.cell? ⟨p7, 6, none⟩ = some (.int .i64 n8) ∧ w'.cell? ⟨p7, 7, none⟩ = some (.slice a8 l8 c8) ∧ w'.cell? ⟨p7, 8, none⟩ = some (.string f)) ∧ (w'.cell? ⟨p9, 0, none⟩ = some (.int .i64 k9) ∧ w'.cell? ⟨p9, 1, none⟩ = some (.string s9) ∧ w'.cell? ⟨p9, 2, none⟩ = some (.int .i64 n9) ∧ w'.cell? ⟨p9, 3, none⟩ = some (.slice a9 l9 c9))) := fun w' hu => by
      have h7 : ∀ x ∈ F7 ++ G7, W3.heap.size ≤ x ∧ x < p7 := fun x hx => ⟨M7.out x hx, L7.out x hx⟩
      have h9 : ∀ x ∈ F9, W4.heap.size ≤ x ∧ x < p9 := fun x hx => ⟨N9.out.1 x hx, L9.out x hx⟩
      have hb : Below W3.heap.size W3 w' := HB36.out.trans (hu.below (fun x hx => by
        rcases List.mem_append.1 hx with hx | hx
        · exact (h7 x hx).1
        · have := (h9 x hx).1; omega) HB36.out.size)
      have hn7 : p7 ∉ (F7 ++ G7) ++ F9 := fun hx => by
        rcases List.mem_append.1 hx with hx | hx
        · have := (h7 _ hx).2; omega
        · have := (h9 _ hx).1; omega
      have hn9 : p9 ∉ (F7 ++ G7) ++ F9 := fun hx => by
        rcases List.mem_append.1 hx with hx | hx
        · have := (h7 _ hx).2; omega
        · have := (h9 _ hx).2; omega
      obtain ⟨b0, b1, b2, b3, _⟩ := blk4 ((hu.block p9 (by omega) hn9).trans K9.out)
      exact ⟨hb, (blk9 ((hu.block p7 (by omega) hn7).trans K7b.out)).1, b0, b1, b2, b3⟩
    have D79 : Hid (∀ x ∈ F9, x ∉ F7 ++ G7) := fun x hx h => by have := N9.out.1 x hx; have := L7.out x h; omega
    clear K7b K9 L7 L9 HB36 HB4 HB6 hs46 hs34 sW4 sW6
    -- g0 is w0
    obtain ⟨a1', _, b0, b1, b2, b3⟩ := HALL.out W6 (Out.refl _ _)
    obtain ⟨x0, x1, x2, x3, x4⟩ := H6.out W6 a1'
    have HE : Hid _ := eq_term R W6 _ _ (Own.toIn _ _ _ O9'.out) x4
    clear x4 a1'
    go_upto_region 10 with (go_at_call 11; refine (Calls.mono HE.out ?_); rintro e w7 ⟨rfl, b7⟩; have U7 : Hid (Below W6.heap.size W6 w7) := b7; clear b7)
    clear b0 b1 b2 b3 x0 x1 x2 x3 HE
    -- x0 is as it was
    refine wp_region_facts 4 (fun i v _ w' => match i with
      | 0 => v = .agg #[.int .i64 k7, .string s7, .int .i64 n7, .slice a7 l7 c7, .int .i64 k8, .string s8, .int .i64 n8, .slice a8 l8 c8, .string f]
      | 1 => v = .agg #[.int .i64 k1, .string s1, .int .i64 n1, .slice a1 l1 c1, .int .i64 k2, .string s2, .int .i64 n2, .slice a2 l2 c2, .string f]
      | 2 => ∃ k13 s13 n13 a13 l13 c13 k14 s14 n14 a14 l14 c14, v = .agg #[.int .i64 k13, .string s13, .int .i64 n13, .slice a13 l13 c13, .int .i64 k14, .string s14, .int .i64 n14, .slice a14 l14 c14, .string f] ∧ TmIn w' H (.agg #[.int .i64 k13, .string s13, .int .i64 n13, .slice a13 l13 c13]) ∧ TmIn w' B (.agg #[.int .i64 k14, .string s14, .int .i64 n14, .slice a14 l14 c14])
      | _ => v = .bool true) (by kernel_rfl) (by kernel_rfl) 69 rfl (by kernel_rfl) ?_ ?_ ?_
    · intro i v S w w' hi h hb
      match i, hi, h with
      | 0, _, h => exact h
      | 1, _, h => exact h
      | 2, _, ⟨k13, s13, n13, a13, l13, c13, k14, s14, n14, a14, l14, c14, h1, h2, h3⟩ => exact ⟨k13, s13, n13, a13, l13, c13, k14, s14, n14, a14, l14, c14, h1, TmIn.keep hb _ _ h2, TmIn.keep hb _ _ h3⟩
      | 3, _, h => exact h
    · intro i o hi ho a w' hb hfr hdep
      have hb6 : Below W6.heap.size W6 w' := U7.out.trans (hb.mono U7.out.size)
      obtain ⟨hb3, ⟨m0, m1, m2, m3, m4, m5, m6, m7, m8⟩, _⟩ := HALL.out w' (Out.of_below hb6)
      obtain ⟨g1, g2, ⟨y0, y1, y2, y3, y4, y5, y6, y7, y8⟩⟩ := HARG.out w' (HBB.out.trans (hb3.mono HBB.out.size))
      have u1 : a.tmps.getD 1 undef = .pointer (some ⟨w.heap.size, 0, none⟩) := hfr 1 (by decide)
      have u5 : a.tmps.getD 5 undef = .pointer (some ⟨p7, 0, none⟩) := hfr 5 (by decide)
      match i, hi with
      | 0, _ =>
        obtain rfl : _ = o := by simpa using ho
        refine fact_value (w' := w') (v := .agg #[.int .i64 k7, .string s7, .int .i64 n7, .slice a7 l7 c7, .int .i64 k8, .string s8, .int .i64 n8, .slice a8 l8 c8, .string f]) ?_ (Below.refl _ _) ⟨[], rfl, by simp⟩
        simp only [execOp, Act.eval, u5]
        go_simp
      | 1, _ =>
        obtain rfl : _ = o := by simpa using ho
        refine fact_value (w' := w') (v := .agg #[.int .i64 k1, .string s1, .int .i64 n1, .slice a1 l1 c1, .int .i64 k2, .string s2, .int .i64 n2, .slice a2 l2 c2, .string f]) ?_ (Below.refl _ _) ⟨[], rfl, by simp⟩
        simp only [execOp, Act.eval, u1]
        go_simp
      | 2, _ =>
        obtain rfl : _ = o := by simpa using ho
        obtain ⟨_, h0⟩ : ∃ _ : List Nat, a.tmps.getD 28 undef = .agg #[.int .i64 k1, .string s1, .int .i64 n1, .slice a1 l1 c1, .int .i64 k2, .string s2, .int .i64 n2, .slice a2 l2 c2, .string f] := hdep 1 (by kernel_rfl)
        refine fact_call rfl Try.func9 (by kernel_rfl) (by kernel_rfl) (args := #[.agg #[.int .i64 k1, .string s1, .int .i64 n1, .slice a1 l1 c1, .int .i64 k2, .string s2, .int .i64 n2, .slice a2 l2 c2, .string f]]) ?_ ?_
        · simp [Act.eval, h0]
        · refine Calls.mono (HTO.out w' _ _ _ _ _ _ _ _ _ _ _ _ g1 g2) ?_
          rintro e w4 ⟨k13, s13, n13, a13, l13, c13, k14, s14, n14, a14, l14, c14, F, G, rfl, o1, o2, _, _, _, _, _, hb4⟩
          exact ⟨_, rfl, hb4, [], ⟨_, _, _, _, _, _, _, _, _, _, _, _, rfl, Own.toIn _ _ _ o1, Own.toIn _ _ _ o2⟩, by simp⟩
      | 3, _ =>
        obtain rfl : _ = o := by simpa using ho
        obtain ⟨_, h0⟩ : ∃ _ : List Nat, a.tmps.getD 27 undef = .agg #[.int .i64 k7, .string s7, .int .i64 n7, .slice a7 l7 c7, .int .i64 k8, .string s8, .int .i64 n8, .slice a8 l8 c8, .string f] := hdep 0 (by kernel_rfl)
        obtain ⟨_, k13, s13, n13, a13, l13, c13, k14, s14, n14, a14, l14, c14, h1, h2, h3⟩ : ∃ _ : List Nat, ∃ k13 s13 n13 a13 l13 c13 k14 s14 n14 a14 l14 c14, a.tmps.getD 29 undef = .agg #[.int .i64 k13, .string s13, .int .i64 n13, .slice a13 l13 c13, .int .i64 k14, .string s14, .int .i64 n14, .slice a14 l14 c14, .string f] ∧ TmIn w' H (.agg #[.int .i64 k13, .string s13, .int .i64 n13, .slice a13 l13 c13]) ∧ TmIn w' B (.agg #[.int .i64 k14, .string s14, .int .i64 n14, .slice a14 l14 c14]) := hdep 2 (by kernel_rfl)
        refine fact_call rfl Try.func12 (by kernel_rfl) (by kernel_rfl) (args := #[.agg #[.int .i64 k7, .string s7, .int .i64 n7, .slice a7 l7 c7, .int .i64 k8, .string s8, .int .i64 n8, .slice a8 l8 c8, .string f], .agg #[.int .i64 k13, .string s13, .int .i64 n13, .slice a13 l13 c13, .int .i64 k14, .string s14, .int .i64 n14, .slice a14 l14 c14, .string f]]) ?_ ?_
        · simp [Act.eval, h0]; simpa using h1
        · refine Calls.mono (eq_clause H B f w' _ _ _ _ _ _ _ _ _ _ _ _ _ _ _ _ _ _ _ _ _ _ _ _ (TmIn.keep hb6 _ _ (Own.toIn _ _ _ O7b.out.1)) (TmIn.keep hb6 _ _ (Own.toIn _ _ _ O7b.out.2)) h2 h3) ?_
          rintro e w4 ⟨rfl, hb4⟩
          exact ⟨_, rfl, hb4, [], rfl, by simp⟩
    intro vals S w9 hb hf _
    have h3 : vals 3 = .bool true := (hf 3 (by omega)).1
    have U9 : Hid (Below W6.heap.size W6 w9) := U7.out.trans (hb.mono U7.out.size)
    simp only [putN, List.getElem?_toArray, List.getElem?_cons_zero, List.getElem?_cons_succ, Option.bind_some, List.drop_succ_cons, List.drop_zero, h3]
    generalize vals 0 = v31
    generalize vals 1 = v32
    generalize vals 2 = v33
    clear hf h3 hb U7
    go_upto_region 13 with fail
    -- what is written into x0 is not in g0
    obtain ⟨_, ⟨m0, m1, m2, m3, m4, m5, m6, m7, m8⟩, _⟩ := HALL.out w9 (Out.of_below U9.out)
    obtain ⟨j, hj⟩ : ∃ j, j = 1 + 3 * ns H.kids := ⟨_, rfl⟩
    have HK := mark_clause H B f w9 _ _ _ _ _ _ _ _ _ _ _ _ F7 G7 1 j (Own.keep _ _ _ O7b.out.1 fun x hx => U9.out.block x (Own.lt _ _ _ O7b.out.1 x hx)) (Own.keep _ _ _ O7b.out.2 fun x hx => U9.out.block x (Own.lt _ _ _ O7b.out.2 x hx)) N7.out.2.2.1 N7.out.2.2.2.1 N7.out.2.2.2.2 (by omega) hj (by have := HNS.out; omega)
    have hn1 : ¬ ((j + 3 * ns B.kids : Nat) : Int) < 0 := by omega
    generalize j + 3 * ns B.kids = nx1 at HK hn1
    replace HK : Hid _ := HK
    clear hj
    go_upto_region 14 with (go_at_call 13; refine (Calls.mono HK.out ?_); rintro e w10 ⟨rfl, _, _, u⟩; have U10 : Hid (Out (F7 ++ G7) w9 w10) := u; clear u)
    clear m0 m1 m2 m3 m4 m5 m6 m7 m8 HK
    have V10 : Hid (Out ((F7 ++ G7) ++ F9) W6 w10) := (Out.of_below U9.out).trans (U10.out.mono fun x hx => List.mem_append_left _ hx)
    have O9d : Hid (Own 31 w10 R (.agg #[.int .i64 k9, .string s9, .int .i64 n9, .slice a9 l9 c9]) F9) := Own.keep _ _ _ O9'.out fun x hx => by
      have hl := Own.lt _ _ _ O9'.out x hx
      exact (U10.out.block x (Nat.lt_of_lt_of_le hl U9.out.size) (D79.out x hx)).trans (U9.out.block x hl)
    obtain ⟨a1', _, b0, b1, b2, b3⟩ := HALL.out w10 V10.out
    obtain ⟨x0, x1, x2, x3, x4⟩ := H6.out w10 a1'
    have HE : Hid _ := eq_term R w10 _ _ (Own.toIn _ _ _ O9d.out) x4
    clear x4 a1'
    go_upto_region 17 with (go_at_call 11; refine (Calls.mono HE.out ?_); rintro e w12 ⟨rfl, b12⟩; have U12 : Hid (Below w10.heap.size w10 w12) := b12; clear b12)
    clear b0 b1 b2 b3 x0 x1 x2 x3 HE
    -- g0 owns its memory
    have V12 : Hid (Out ((F7 ++ G7) ++ F9) W6 w12) := V10.out.trans (Out.of_below U12.out)
    have O9f : Hid (Own 31 w12 R (.agg #[.int .i64 k9, .string s9, .int .i64 n9, .slice a9 l9 c9]) F9) := Own.keep _ _ _ O9d.out fun f hf => U12.out.block f (Own.lt _ _ _ O9d.out f hf)
    obtain ⟨_, _, b0, b1, b2, b3⟩ := HALL.out w12 V12.out
    have HK := mark_term R w12 _ F9 1 O9f.out N9.out.2 (by omega) (by have := HNS.out.2.2; omega)
    have HHD : Hid (∀ w', TmIn w' (R.markK 1) (.agg #[.int .i64 k9, .string s9, .int .i64 n9, .slice a9 l9 c9]) → Calls Try.prog 15 #[.agg #[.int .i64 k9, .string s9, .int .i64 n9, .slice a9 l9 c9], .int .i64 ((1 : Nat) : Int)] w' fun e w2 => e = .returned (.int .i64 ((1 + 3 * ns R.kids : Nat) : Int)) ∧ Below w'.heap.size w' w2) := fun w' h => held_term R w' _ 1 h (by omega) (by have := HNS.out.2.2; omega)
    have hn3 : ¬ ((1 + 3 * ns R.kids : Nat) : Int) < 0 := by omega
    generalize 1 + 3 * ns R.kids = nx3 at HK HHD hn3
    replace HK : Hid _ := HK
    go_upto_region 19 with (go_at_call 14; refine (Calls.mono HK.out ?_); rintro e w13 ⟨rfl, o13, u⟩; have U13 : Hid (Out F9 w12 w13) := u; have T13 : Hid (TmIn w13 (R.markK 1) (.agg #[.int .i64 k9, .string s9, .int .i64 n9, .slice a9 l9 c9])) := Own.toIn _ _ _ o13; clear u o13)
    clear b0 b1 b2 b3 HK O9d O9f
    have V13 : Hid (Out ((F7 ++ G7) ++ F9) W6 w13) := V12.out.trans (U13.out.mono fun f hf => List.mem_append_right _ hf)
    obtain ⟨_, _, b0, b1, b2, b3⟩ := HALL.out w13 V13.out
    have HK : Hid _ := HHD.out w13 T13.out
    go_upto_region 24 with (go_at_call 15; refine (Calls.mono HK.out ?_); rintro e w14 ⟨rfl, b14⟩; have U14 : Hid (Below w13.heap.size w13 w14) := b14; clear b14)
    clear b0 b1 b2 b3 HK
    have V14 : Hid (Out ((F7 ++ G7) ++ F9) W6 w14) := V13.out.trans (Out.of_below U14.out)
    have B314 : Hid (Below W3.heap.size W3 w14) := (HALL.out w14 V14.out).1
    -- once more
    have BW14 : Hid (Below W.heap.size W w14) := HBB.out.trans (B314.out.mono HBB.out.size)
    obtain ⟨g1, g2, ⟨y0, y1, y2, y3, y4, y5, y6, y7, y8⟩⟩ := HARG.out w14 BW14.out
    have HC1 : Hid _ := HTO.out w14 _ _ _ _ _ _ _ _ _ _ _ _ g1 g2
    clear g1 g2
    go_upto_region 25 with (first
      | (go_at_call 9; refine (Calls.mono HC1.out ?_); rintro e w15 ⟨k15, s15, n15, a15, l15, c15, k16, s16, n16, a16, l16, c16, F1, G1, rfl, o1, o2, _, _, e1, e2, e3, hb⟩; have B15 : Hid (Below w14.heap.size w14 w15) := hb; have HC2 : Hid _ := HIM.out w15 _ _ _ _ _ _ _ _ _ _ _ _ F1 G1 o1 o2 e1 e2 e3; clear o1 o2 e1 e2 e3 hb)
      | (go_at_call 10; refine (Calls.mono HC2.out ?_); rintro e w16 ⟨v3, F3, rfl, o3, _, _, hb⟩; obtain ⟨kh, sh, nh, aoh, lenh, caph, rfl⟩ := own_shape o3; have T16 : Hid (TmIn w16 R (.agg #[.int .i64 kh, .string sh, .int .i64 nh, .slice aoh lenh caph])) := Own.toIn _ _ _ o3; have B16 : Hid (Below w14.heap.size w14 w16) := B15.out.trans (hb.mono B15.out.size); clear o3 hb))
    clear y0 y1 y2 y3 y4 y5 y6 y7 y8 HC1 HC2
    obtain ⟨W16, hW16⟩ : ∃ W16, W16 = w16.alloc (.cells #[.int .i64 kh, .string sh, .int .i64 nh, .slice aoh lenh caph] 31) := ⟨_, rfl⟩
    rw [← hW16]
    have bW16 : Below w16.heap.size w16 W16 := by rw [hW16]; exact (Below.refl _ _).alloc (Nat.le_refl _) _
    have k16 : W16.heap[w16.heap.size]? = some (.cells #[.int .i64 kh, .string sh, .int .i64 nh, .slice aoh lenh caph] 31 (0, 0)) := by rw [hW16]; exact heap_alloc_new _ _
    have t16 : TmIn W16 R (.agg #[.int .i64 kh, .string sh, .int .i64 nh, .slice aoh lenh caph]) := TmIn.keep bW16 _ _ T16.out
    have B17 : Hid (Below w14.heap.size w14 W16) := B16.out.trans (bW16.mono B16.out.size)
    have V16 : Hid (Out ((F7 ++ G7) ++ F9) W6 W16) := V14.out.trans (Out.of_below B17.out)
    have B13 : Hid (Below w13.heap.size w13 W16) := U14.out.trans (B17.out.mono U14.out.size)
    obtain ⟨y0, y1, y2, y3, _⟩ := blk4 k16
    obtain ⟨a1, _⟩ := HALL.out W16 V16.out
    obtain ⟨x0, x1, x2, x3, x4⟩ := H6.out W16 a1
    have HE : Hid _ := eq_term R W16 _ _ t16 x4
    clear x4 a1 t16 hW16 bW16 k16 T16 B15 B16
    go_upto_region 28 with (go_at_call 11; refine (Calls.mono HE.out ?_); rintro e w17 ⟨rfl, b17⟩; have U17 : Hid (Below W16.heap.size W16 w17) := b17; clear b17)
    clear y0 y1 y2 y3 x0 x1 x2 x3 HE
    have V17 : Hid (Out ((F7 ++ G7) ++ F9) W6 w17) := V16.out.trans (Out.of_below U17.out)
    have B18 : Hid (Below w13.heap.size w13 w17) := B13.out.trans (U17.out.mono B13.out.size)
    obtain ⟨_, _, b0, b1, b2, b3⟩ := HALL.out w17 V17.out
    have HK : Hid _ := HHD.out w17 (TmIn.keep B18.out _ _ T13.out)
    go_wp2_with (go_at_call 15; refine (Calls.mono HK.out ?_); rintro e w18 ⟨rfl, b18⟩; have U18 : Hid (Below w17.heap.size w17 w18) := b18; clear b18)
    have V18 : Hid (Out ((F7 ++ G7) ++ F9) W6 w18) := V17.out.trans (Out.of_below U18.out)
    go_ret
    refine ⟨rfl, ?_⟩
    have h1 := (HALL.out w18 V18.out).1
    have h2 := HBB.out.trans (h1.mono HBB.out.size)
    exact HBW.out.trans (h2.mono HBW.out.size)
  · rw [show szR (H.wt + B.wt + f.size) 1048576 = -1 from if_neg hwt, hW] at HSZ
    replace HSZ : Hid _ := HSZ
    clear hwt
    go_enter Try.func4, Try.ntmps4
    go_wp2_with (go_at_call 7; refine (Calls.mono HSZ.out ?_); rintro e w1 ⟨rfl, hb⟩; rw [← hW] at hb; have HB : Hid (Below w.heap.size w w1) := HBW.out.trans (hb.mono HBW.out.size); clear hb)
    go_ret
    exact ⟨rfl, HB.out⟩

theorem own : ownKnob Try.prog.godebug = none := by kernel_rfl
set_option maxRecDepth 100000 in
theorem lifted (os : Os) (started : os.Started) (H : Type) (enc : TypeId × Value → H) :
    ReturnsInHanded {} Try.checked os 4 .any (Rows.fnExactClauseTermSpec.pre6 enc Try.prog Try.f4 Rows.fnExactClauseTermRow.domain false) (Rows.fnExactClauseTermSpec.post enc Try.prog Try.f4 false true false false) := by
  refine returnsInHanded_of_change (C := Try.checked) own started (by kernel_rfl) Try.func4
    (ChangeSpec.witness6 (enc := enc) (C := Try.checked) false ⟨#[], #[.agg #[.int .i64 0, .string .empty, .int .i64 0, .slice none 0 0, .int .i64 0, .string .empty, .int .i64 0, .slice none 0 0, .string .empty]], []⟩ 8 (by kernel_rfl) (by kernel_rfl) (by kernel_rfl) (by kernel_rfl)) ?_
  intro W base args ds gs before hval0 hW hcnd _
  have hval : ∀ (j : Nat) t v, Try.f4.params[j]? = some t → args[j]? = some v → Value.okWide Try.prog W .any base t v := hval0
  have hW' := hW
  have hlt := hW.lt
  obtain ⟨p, q, hA0, hV, rfl, hfz, hnd⟩ := hW
  have hA : DataW.TrodAll enc Try.prog W 0 (fun _ => true) true Try.f4.params.toList args.toList ds p := hA0
  rw [Try.params4] at hA hval
  obtain ⟨v0, vs0, d0, ds0, p0, q0, hargs, rfl, rfl, h0, r0⟩ := trodAll_cons hA
  obtain ⟨rfl, rfl, rfl⟩ := trodAll_nil r0
  obtain rfl : args = #[v0] := by cases args; simp_all
  obtain ⟨rfl, rfl⟩ := trodVars_none hV
  simp only [List.append_nil] at hW'
  obtain ⟨t0, u0, f0, c0, c1, c2, c3, c4, c5, c6, c7, rfl, hf0, hin0, hin1⟩ := cl_split (hval 0 27 v0 rfl rfl) h0
  obtain ⟨k1, s1, n1, a1, l1, e1, ex⟩ := tm_shape hin0
  obtain ⟨k2, s2, n2, a2, l2, e2, ey⟩ := tm_shape hin1
  obtain ⟨rfl, rfl, rfl, rfl⟩ : c0 = .int .i64 k1 ∧ c1 = .string s1 ∧ c2 = .int .i64 n1 ∧ c3 = .slice a1 l1 e1 := by simpa using ex
  obtain ⟨rfl, rfl, rfl, rfl⟩ : c4 = .int .i64 k2 ∧ c5 = .string s2 ∧ c6 = .int .i64 n2 ∧ c7 = .slice a2 l2 e2 := by simpa using ey
  clear hA0 hval0
  refine (walk t0 u0 f0 hf0 W _ _ _ _ _ _ _ _ _ _ _ _ hin0 hin1).mono fun e W' ⟨he, bel⟩ => ?_
  subst he
  exact ⟨_, rfl, _, _, _, [], _, [], hW', trodAll_mk1 (shut_bool Try.underlying4 _), (trodAll_cons_mk (Below.trod laidOutT readsCl rowCl h0 bel (fun x hx => hlt x (by simp [hx]))) trodAll_mk0), rfl, bel.frame _, fun h => by cases h⟩

theorem over : Rows.fnExactClauseTermRow.holds Try.pinned (OpenSpec.ofChange Rows.fnExactClauseTermSpec) :=
  OpenClaim.holds_of_wide 4 Try.f4 rfl rfl rfl rfl rfl rfl rfl ⟨rfl, rfl, rfl, rfl, rfl⟩ rfl rfl rfl rfl rfl (by kernel_rfl) Try.func4 (by kernel_rfl)
    (of_decide_eq_true (by kernel_rfl)) (by unfold Func.isWrapper; first | (rw [if_pos (by decide +kernel)]; kernel_rfl) | (rw [if_neg (by decide +kernel)]; exact ⟨rfl, rfl⟩))
    (fun os started H enc _ => lifted os started H enc)

theorem proved : Rows.FnExactClauseTermSaid := over
#print axioms proved
end Go.Proofs.Ytenmhpalpfppmao.fnExactClauseTerm
