/- impl.ClauseTerm. -/
import Derived.Test.YtenmhpalpfppmaoKopE
import Derived.Test.YtenmhpalpfppmaoMkS
import Derived.Test.YtenmhpalpfppmaoNewCop
import Derived.Test.YtenmhpalpfppmaoMrg2
import Derived.Test.YtenmhpalpfppmaoRegFactI
import Derived.Deep.RegionWith
import Derived.Deep.DeepCutAuto
namespace Go.Proofs.Ytenmhpalpfppmao
open Go.RowKit

theorem KPost.base {T0 : Nat} {D0 : List Nat} {osl : Value} {gc m : Nat} {t : Tm} {F : List Nat} {w u w' : World} {e : Ending} (hb : Below w.heap.size w u) (h : KPost T0 D0 osl gc m t F u e w') : KPost T0 D0 osl gc m t F w e w' := by
  obtain ⟨v', F', T1, D1, osl', h1, h2, h3, h4, h5, h6, h7, h8, h9⟩ := h
  have hs := hb.size
  exact ⟨v', F', T1, D1, osl', h1, h2, fun f hf => ⟨by have := (h3 f hf).1; omega, (h3 f hf).2⟩, h4, (Out.of_below hb).trans h5, h6, h7, fun d hd => (h8 d hd).imp id fun h => h.imp id fun h => by omega, fun z hz => (h9 z hz).imp id fun h => by omega⟩
/-- a row of two terms, in memory of its own -/
theorem own_two {w : World} {b : Nat} {m : ByteArray} {H B : Tm} {F G : List Nat} {c0 c1 c2 c3 c4 c5 c6 c7 : Value} (hk : w.heap[b]? = some (.cells #[c0, c1, c2, c3, c4, c5, c6, c7] 31 (0, 0))) (h1 : Own 31 w H (.agg #[c0, c1, c2, c3]) F) (h2 : Own 31 w B (.agg #[c4, c5, c6, c7]) G) (hm : m.size ≤ maxLen) :
    Own 31 w (.mk 4 m 0 [H, B]) (.agg #[.int .i64 4, .string m, .int .i64 0, .slice (some ⟨b, 0, none⟩) 2 2]) (b :: (F ++ G)) := by
  refine own_mk (Or.inr ⟨b, 2, [c0, c1, c2, c3, c4, c5, c6, c7], F ++ G, rfl, ⟨rfl, Or.inr ⟨b, 2, #[c0, c1, c2, c3, c4, c5, c6, c7], rfl, Nat.zero_le _, hk, Nat.le_refl _, by unfold maxLen; omega, rfl, rfl⟩⟩, rfl, ?_⟩) (by omega) (by omega) hm
  unfold OwnRow
  refine ⟨c0, c1, c2, c3, [c4, c5, c6, c7], F, G, rfl, rfl, h1, ?_⟩
  unfold OwnRow
  refine ⟨c4, c5, c6, c7, [], G, [], rfl, by simp, h2, ?_⟩
  unfold OwnRow
  exact ⟨rfl, rfl⟩

set_option maxHeartbeats 8000000 in
set_option maxRecDepth 20000 in
theorem i_clauseTerm (H B : Tm) (f : ByteArray) (w : World) (k1 s1 n1 a1 l1 c1 k2 s2 n2 a2 l2 c2) (F G : List Nat) (h1 : Own 31 w H (.agg #[.int .i64 k1, .string s1, .int .i64 n1, .slice a1 l1 c1]) F) (h2 : Own 31 w B (.agg #[.int .i64 k2, .string s2, .int .i64 n2, .slice a2 l2 c2]) G) (d1 : F.Nodup) (d2 : G.Nodup) (d3 : ∀ x ∈ G, x ∉ F) (hw : H.wt + B.wt ≤ 1048576) :
    Calls Try.prog 10 #[.agg #[.int .i64 k1, .string s1, .int .i64 n1, .slice a1 l1 c1, .int .i64 k2, .string s2, .int .i64 n2, .slice a2 l2 c2, .string f]] w fun e w' => ∃ v' F', e = .returned v' ∧ Own 31 w' (.mk 4 cIf 0 [H, B]) v' F' ∧ (∀ x ∈ F', w.heap.size ≤ x) ∧ F'.Nodup ∧ Below w.heap.size w w' := by
  obtain ⟨W, hW⟩ : ∃ W, W = (w.alloc (.cells #[.int .i64 k1, .string s1, .int .i64 n1, .slice a1 l1 c1, .int .i64 k2, .string s2, .int .i64 n2, .slice a2 l2 c2, .string f] 34)).alloc (.cells #[.int .i64 0, .string ⟨#[]⟩, .int .i64 0, .slice none 0 0] 31) := ⟨_, rfl⟩
  have bW : Below w.heap.size w W := by rw [hW]; exact ((Below.refl _ _).alloc (Nat.le_refl _) _).alloc (by simp) _
  have lW : W.heap.size = w.heap.size + 2 := by rw [hW]; simp
  have q1 : W.heap[w.heap.size]? = some (.cells #[.int .i64 k1, .string s1, .int .i64 n1, .slice a1 l1 c1, .int .i64 k2, .string s2, .int .i64 n2, .slice a2 l2 c2, .string f] 34 (0, 0)) := by rw [hW]; exact (alloc_old _ _ (by simp)).trans (alloc_at _ _ rfl)
  have q3 : W.heap[w.heap.size + 1]? = some (.cells #[.int .i64 0, .string ⟨#[]⟩, .int .i64 0, .slice none 0 0] 31 (0, 0)) := by rw [hW]; exact alloc_at _ _ (by simp)
  have HNC := new_copier W
  have HBW : Hid (Below w.heap.size w W) := bW
  have HL : Hid (W.heap.size = w.heap.size + 2) := lW
  have HQ : Hid (W.heap[w.heap.size]? = _ ∧ W.heap[w.heap.size + 1]? = _) := ⟨q1, q3⟩
  have HO : Hid (Own 31 w H (.agg #[.int .i64 k1, .string s1, .int .i64 n1, .slice a1 l1 c1]) F ∧ Own 31 w B (.agg #[.int .i64 k2, .string s2, .int .i64 n2, .slice a2 l2 c2]) G) := ⟨h1, h2⟩
  have HD : Hid (F.Nodup ∧ G.Nodup ∧ (∀ x ∈ G, x ∉ F) ∧ H.wt + B.wt ≤ 1048576) := ⟨d1, d2, d3, hw⟩
  have HSO : Hid (∀ ao u, Calls Try.prog 21 #[.string cIf, .slice ao 2 2] u fun e w' => e = .returned (.agg #[.int .i64 4, .string cIf, .int .i64 0, .slice ao 2 2]) ∧ Below u.heap.size u w') := fun ao u => m_structOf cIf ao 2 2 u (by show 2 ≤ 1048576; omega)
  obtain ⟨m, hm⟩ : ∃ m, m = W.heap.size := ⟨_, rfl⟩
  rw [← hm] at HNC
  obtain ⟨g, hg⟩ : ∃ g, g = m + 1 := ⟨_, rfl⟩
  rw [← hg] at HNC
  have HMG : Hid (m = w.heap.size + 2 ∧ g = w.heap.size + 3) := ⟨by omega, by omega⟩
  rw [hW] at HNC
  have HNC' : Hid _ := HNC
  clear h1 h2 d1 d2 d3 hw bW lW q1 q3 HNC
  go_enter Try.func10, Try.ntmps10
  go_upto_region 2 with (go_at_call 20; refine (Calls.mono HNC'.out ?_); rintro e w1 ⟨rfl, kg, km, hs, hb⟩; rw [← hW] at hb; have HK1 : Hid (KSt w1 g m 0 [] (.slice none 0 0)) := kst_new kg km (by omega); have HS1 : Hid (w1.heap.size = w.heap.size + 4) := (by have := HMG.out; show _ = _; rw [hs]; omega); have HB1 : Hid (Below W.heap.size W w1) := (by show Below _ _ _; rw [← hm]; exact hb); clear kg km hs hb)
  clear hW hm hg HNC'
  have hB1 := HBW.out.trans (HB1.out.mono HBW.out.size)
  have HBw1 : Hid (Below w.heap.size w w1) := hB1
  have hc1 := (HB1.out.block _ (Array.getElem?_eq_some_iff.1 HQ.out.1).1).trans HQ.out.1
  have hr1 := (HB1.out.block _ (Array.getElem?_eq_some_iff.1 HQ.out.2).1).trans HQ.out.2
  obtain ⟨p, hp⟩ : ∃ p, p = w.heap.size := ⟨_, rfl⟩
  rw [← hp] at hc1 hr1 ⊢
  have HPP : Hid (p = w.heap.size) := hp
  have HCR : Hid (w1.heap[p]? = some (.cells #[.int .i64 k1, .string s1, .int .i64 n1, .slice a1 l1 c1, .int .i64 k2, .string s2, .int .i64 n2, .slice a2 l2 c2, .string f] 34 (0, 0)) ∧ w1.heap[p + 1]? = some (.cells #[.int .i64 0, .string ⟨#[]⟩, .int .i64 0, .slice none 0 0] 31 (0, 0))) := ⟨hc1, hr1⟩
  have HC1 : Hid (∀ u, Below w1.heap.size w1 u → Calls Try.prog 22 #[.pointer (some ⟨g, 0, none⟩), .agg #[.int .i64 k1, .string s1, .int .i64 n1, .slice a1 l1 c1]] u fun e w' => KPost 0 [] (.slice none 0 0) g m H F w1 e w') := fun u hb => by
    have hBu := HBw1.out.trans (hb.mono HBw1.out.size)
    refine Calls.mono (copy_any H _ F u g m 0 [] _ (Own.keep _ _ _ HO.out.1 fun x hx => hBu.block x (Own.lt _ _ _ HO.out.1 x hx)) HD.out.1 (by have := HD.out.2.2.2; omega) (HK1.out.keep hb) (by omega) (fun x hx => ?_)) fun e w' h => KPost.base hb h
    have := Own.lt _ _ _ HO.out.1 x hx
    have := HMG.out
    exact ⟨by omega, by omega, fun e => (by cases e), by simp⟩
  have HAFT : Hid (∀ e w3, KPost 0 [] (.slice none 0 0) g m H F w1 e w3 → ∃ k5 s5 n5 a5 l5 c5 F1, e = .returned (.agg #[.int .i64 k5, .string s5, .int .i64 n5, .slice a5 l5 c5]) ∧ Own 31 w3 H (.agg #[.int .i64 k5, .string s5, .int .i64 n5, .slice a5 l5 c5]) F1 ∧ (∀ x ∈ F1, w1.heap.size ≤ x) ∧ F1.Nodup ∧ w3.heap[p]? = some (.cells #[.int .i64 k1, .string s1, .int .i64 n1, .slice a1 l1 c1, .int .i64 k2, .string s2, .int .i64 n2, .slice a2 l2 c2, .string f] 34 (0, 0)) ∧ w3.heap[p + 1]? = some (.cells #[.int .i64 0, .string ⟨#[]⟩, .int .i64 0, .slice none 0 0] 31 (0, 0)) ∧ Below p w w3 ∧ w1.heap.size ≤ w3.heap.size ∧
      ∀ u, Below w3.heap.size w3 u → Calls Try.prog 22 #[.pointer (some ⟨g, 0, none⟩), .agg #[.int .i64 k2, .string s2, .int .i64 n2, .slice a2 l2 c2]] u fun e w' => ∃ k6 s6 n6 a6 l6 c6 F2, e = .returned (.agg #[.int .i64 k6, .string s6, .int .i64 n6, .slice a6 l6 c6]) ∧ Own 31 w' B (.agg #[.int .i64 k6, .string s6, .int .i64 n6, .slice a6 l6 c6]) F2 ∧ (∀ x ∈ F2, w3.heap.size ≤ x) ∧ F2.Nodup ∧ w'.heap[p]? = some (.cells #[.int .i64 k1, .string s1, .int .i64 n1, .slice a1 l1 c1, .int .i64 k2, .string s2, .int .i64 n2, .slice a2 l2 c2, .string f] 34 (0, 0)) ∧ w'.heap[p + 1]? = some (.cells #[.int .i64 0, .string ⟨#[]⟩, .int .i64 0, .slice none 0 0] 31 (0, 0)) ∧ Below p w w' ∧ w3.heap.size ≤ w'.heap.size ∧ Own 31 w' H (.agg #[.int .i64 k5, .string s5, .int .i64 n5, .slice a5 l5 c5]) F1) := by
    rintro e w3 ⟨v', F1, T1, D1, osl1, rfl, o1, f1, nd1, ho, hk, hT, hD, hz⟩
    obtain ⟨k5, s5, n5, a5, l5, c5, rfl⟩ := own_shape o1
    have hmg := HMG.out
    have hpp := HPP.out
    have hsz := HS1.out
    have hobl : ∀ k, k < w1.heap.size → k ≠ g → k ≠ m → w3.heap[k]? = w1.heap[k]? := fun k hk1 hk2 hk3 => ho.block k hk1 (by simp [hk2, hk3, Value.ownBlock])
    have hp3 := (hobl p (by omega) (by omega) (by omega)).trans HCR.out.1
    have hr3 := (hobl (p + 1) (by omega) (by omega) (by omega)).trans HCR.out.2
    have hb3 : Below p w w3 := by
      have h1 := HBw1.out
      rw [← hpp] at h1
      exact ⟨ho.os.trans h1.os, ho.tape.trans h1.tape, ho.output.trans h1.output, Nat.le_trans h1.size ho.size, fun k hk' => (hobl k (by omega) (by omega) (by omega)).trans (h1.block k hk')⟩
    have oB : Own 31 w3 B (.agg #[.int .i64 k2, .string s2, .int .i64 n2, .slice a2 l2 c2]) G := Own.keep _ _ _ HO.out.2 fun x hx => hb3.block x (by rw [hpp]; exact Own.lt _ _ _ HO.out.2 x hx)
    have hG : ∀ x ∈ G, x ≠ g ∧ x ≠ m ∧ osl1.ownBlock ≠ some x ∧ x ∉ D1 := fun x hx => by
      have hxl := Own.lt _ _ _ HO.out.2 x hx
      refine ⟨by omega, by omega, fun e => ?_, fun h => ?_⟩
      · rcases hz x e with h | h
        · cases h
        · omega
      · rcases hD x h with h | h | h
        · cases h
        · exact HD.out.2.2.1 x hx h
        · omega
    refine ⟨k5, s5, n5, a5, l5, c5, F1, rfl, o1, fun x hx => (f1 x hx).1, nd1, hp3, hr3, hb3, ho.size, fun u hb => ?_⟩
    refine Calls.mono (copy_any B _ G u g m T1 D1 osl1 (Own.keep _ _ _ oB fun x hx => hb.block x (Own.lt _ _ _ oB x hx)) HD.out.2.1 (by have := HD.out.2.2.2; omega) (hk.keep hb) (by have := HD.out.2.2.2; omega) hG) ?_
    intro e w' h
    obtain ⟨v', F2, T2, D2, osl2, rfl, o2, f2, nd2, ho2, hk2, hT2, hD2, hz2⟩ := KPost.base hb h
    obtain ⟨k6, s6, n6, a6, l6, c6, rfl⟩ := own_shape o2
    have hob2 : ∀ k, k < w3.heap.size → k ≠ g → k ≠ m → osl1.ownBlock ≠ some k → w'.heap[k]? = w3.heap[k]? := fun k hk1 hk2 hk3 hk4 => ho2.block k hk1 (by simp [hk2, hk3]; exact hk4)
    have hol : ∀ k, k < w1.heap.size → osl1.ownBlock ≠ some k := fun k hk1 e => by
      rcases hz k e with h | h
      · cases h
      · omega
    have hs3 := ho.size
    refine ⟨k6, s6, n6, a6, l6, c6, F2, rfl, o2, fun x hx => (f2 x hx).1, nd2, (hob2 p (by omega) (by omega) (by omega) (hol p (by omega))).trans hp3, (hob2 (p + 1) (by omega) (by omega) (by omega) (hol _ (by omega))).trans hr3, ?_, ho2.size, Own.keep _ _ _ o1 fun x hx => ?_⟩
    · exact ⟨ho2.os.trans hb3.os, ho2.tape.trans hb3.tape, ho2.output.trans hb3.output, Nat.le_trans hb3.size ho2.size, fun k hk' => (hob2 k (by omega) (by omega) (by omega) (hol k (by omega))).trans (hb3.block k hk')⟩
    · have h5 := (f1 x hx).1
      exact hob2 x (Own.lt _ _ _ o1 x hx) (by omega) (by omega) (f1 x hx).2
  have HR1 : Hid (w1.heap[p]? = some (.cells #[.int .i64 k1, .string s1, .int .i64 n1, .slice a1 l1 c1, .int .i64 k2, .string s2, .int .i64 n2, .slice a2 l2 c2, .string f] 34 (0, 0)) ∧ w1.heap[p + 1]? = some (.cells #[.int .i64 0, .string ⟨#[]⟩, .int .i64 0, .slice none 0 0] 31 (0, 0))) := ⟨hc1, hr1⟩
  clear hB1 hc1 hr1 hp
  refine FI.wp_region_inv 10 (fun L v u =>
    (L 0 = true → v 0 = .pointer (some ⟨g, 0, none⟩)) ∧ (L 1 = true → v 1 = .pointer (some ⟨p, 0, none⟩)) ∧ (L 2 = true → v 2 = .agg #[.int .i64 k1, .string s1, .int .i64 n1, .slice a1 l1 c1]) ∧ (L 4 = true → v 4 = .pointer (some ⟨g, 0, none⟩)) ∧ (L 5 = true → v 5 = .pointer (some ⟨p, 4, none⟩)) ∧ (L 6 = true → v 6 = .agg #[.int .i64 k2, .string s2, .int .i64 n2, .slice a2 l2 c2]) ∧
    u.heap[p]? = some (.cells #[.int .i64 k1, .string s1, .int .i64 n1, .slice a1 l1 c1, .int .i64 k2, .string s2, .int .i64 n2, .slice a2 l2 c2, .string f] 34 (0, 0)) ∧ u.heap[p + 1]? = some (.cells #[.int .i64 0, .string ⟨#[]⟩, .int .i64 0, .slice none 0 0] 31 (0, 0)) ∧
    (L 3 = false → Below w1.heap.size w1 u) ∧
    (L 3 = true → L 7 = false → ∃ w3 k5 s5 n5 a5 l5 c5 F1, v 3 = .agg #[.int .i64 k5, .string s5, .int .i64 n5, .slice a5 l5 c5] ∧ Own 31 w3 H (.agg #[.int .i64 k5, .string s5, .int .i64 n5, .slice a5 l5 c5]) F1 ∧ (∀ x ∈ F1, w1.heap.size ≤ x) ∧ F1.Nodup ∧ w1.heap.size ≤ w3.heap.size ∧ Below w3.heap.size w3 u ∧ (∀ u, Below w3.heap.size w3 u → Calls Try.prog 22 #[.pointer (some ⟨g, 0, none⟩), .agg #[.int .i64 k2, .string s2, .int .i64 n2, .slice a2 l2 c2]] u fun e w' => ∃ k6 s6 n6 a6 l6 c6 F2, e = .returned (.agg #[.int .i64 k6, .string s6, .int .i64 n6, .slice a6 l6 c6]) ∧ Own 31 w' B (.agg #[.int .i64 k6, .string s6, .int .i64 n6, .slice a6 l6 c6]) F2 ∧ (∀ x ∈ F2, w3.heap.size ≤ x) ∧ F2.Nodup ∧ w'.heap[p]? = some (.cells #[.int .i64 k1, .string s1, .int .i64 n1, .slice a1 l1 c1, .int .i64 k2, .string s2, .int .i64 n2, .slice a2 l2 c2, .string f] 34 (0, 0)) ∧ w'.heap[p + 1]? = some (.cells #[.int .i64 0, .string ⟨#[]⟩, .int .i64 0, .slice none 0 0] 31 (0, 0)) ∧ Below p w w' ∧ w3.heap.size ≤ w'.heap.size ∧ Own 31 w' H (.agg #[.int .i64 k5, .string s5, .int .i64 n5, .slice a5 l5 c5]) F1)) ∧
    (L 7 = true → ∃ w4 k5 s5 n5 a5 l5 c5 F1 k6 s6 n6 a6 l6 c6 F2, v 3 = .agg #[.int .i64 k5, .string s5, .int .i64 n5, .slice a5 l5 c5] ∧ v 7 = .agg #[.int .i64 k6, .string s6, .int .i64 n6, .slice a6 l6 c6] ∧ Own 31 w4 H (.agg #[.int .i64 k5, .string s5, .int .i64 n5, .slice a5 l5 c5]) F1 ∧ Own 31 w4 B (.agg #[.int .i64 k6, .string s6, .int .i64 n6, .slice a6 l6 c6]) F2 ∧ (∀ x ∈ F1, w1.heap.size ≤ x) ∧ (∀ x ∈ F2, w1.heap.size ≤ x) ∧ F1.Nodup ∧ F2.Nodup ∧ (∀ x ∈ F1, x ∉ F2) ∧ Below p w w4 ∧ p + 1 < w4.heap.size ∧ Below w4.heap.size w4 u ∧
      (L 8 = true → ∃ b, (L 9 = false → v 8 = .slice (some ⟨b, 0, none⟩) 2 2) ∧ (L 9 = true → v 9 = .agg #[.int .i64 4, .string cIf, .int .i64 0, .slice (some ⟨b, 0, none⟩) 2 2]) ∧ w4.heap.size ≤ b ∧ u.heap[b]? = some (.cells #[.int .i64 k5, .string s5, .int .i64 n5, .slice a5 l5 c5, .int .i64 k6, .string s6, .int .i64 n6, .slice a6 l6 c6] 31 (0, 0))))) (by kernel_rfl) (by kernel_rfl) 15 rfl (by kernel_rfl) ?_ ?_ ?_
  · intro vals
    have hd := (Below.refl w1.heap.size w1).drew
    exact ⟨fun h => Bool.noConfusion h, fun h => Bool.noConfusion h, fun h => Bool.noConfusion h, fun h => Bool.noConfusion h, fun h => Bool.noConfusion h, fun h => Bool.noConfusion h, HR1.out.1, HR1.out.2, fun _ => hd, fun h => Bool.noConfusion h, fun h => Bool.noConfusion h⟩
  · intro i o hi ho L a u hI hcl hli hfr hdep
    obtain ⟨h0, h1, h2, h4, h5, h6, hpu, hru, hA, hB, hC⟩ := hI
    have u1 : a.tmps.getD 1 undef = .pointer (some ⟨p, 0, none⟩) := hfr 1 (by decide)
    have u3 : a.tmps.getD 3 undef = .pointer (some ⟨g, 0, none⟩) := by
      have h9 := hfr 3 (by decide)
      rw [show g = p + 1 + 1 + 1 from by have := HMG.out.2; have := HPP.out; omega]
      exact h9
    have c73 : L 7 = true → L 3 = true := fun h => hcl 7 _ rfl h 3 (by kernel_rfl)
    have c87 : L 8 = true → L 7 = true := fun h => hcl 8 _ rfl h 7 (by kernel_rfl)
    have c98 : L 9 = true → L 8 = true := fun h => hcl 9 _ rfl h 8 (by kernel_rfl)
    obtain ⟨⟨x0, x1, x2, x3, x4, x5, x6, x7, x8⟩, _⟩ := blk9 hpu
    match i, hi with
    | 0, _ =>
      obtain rfl : _ = o := by simpa using ho
      refine FI.fact_value (w' := u) (v := .pointer (some ⟨g, 0, none⟩)) rfl ?_ ⟨fun _ => rfl, h1, h2, h4, h5, h6, hpu, hru, hA, hB, hC⟩
      simp only [execOp, Act.eval, u3]
      go_simp
    | 1, _ =>
      obtain rfl : _ = o := by simpa using ho
      refine FI.fact_value (w' := u) (v := .pointer (some ⟨p, 0, none⟩)) rfl ?_ ⟨h0, fun _ => rfl, h2, h4, h5, h6, hpu, hru, hA, hB, hC⟩
      simp only [execOp, Act.eval, u1]
      go_simp
    | 2, _ =>
      obtain rfl : _ = o := by simpa using ho
      have y1 : a.tmps.getD 6 undef = .pointer (some ⟨p, 0, none⟩) := h1 (hdep 1 (by kernel_rfl))
      refine FI.fact_value (w' := u) (v := .agg #[.int .i64 k1, .string s1, .int .i64 n1, .slice a1 l1 c1]) rfl ?_ ⟨h0, h1, fun _ => rfl, h4, h5, h6, hpu, hru, hA, hB, hC⟩
      clear h0 h1 h2 h4 h5 h6 hA hB hC hcl hdep hfr ho
      simp only [execOp, Act.eval, y1]
      go_simp
    | 3, _ =>
      obtain rfl : _ = o := by simpa using ho
      have y0 : a.tmps.getD 5 undef = .pointer (some ⟨g, 0, none⟩) := h0 (hdep 0 (by kernel_rfl))
      have y2 : a.tmps.getD 7 undef = .agg #[.int .i64 k1, .string s1, .int .i64 n1, .slice a1 l1 c1] := h2 (hdep 2 (by kernel_rfl))
      have h7 : L 7 = false := by cases h : L 7 with | false => rfl | true => rw [c73 h] at hli; cases hli
      refine FI.fact_call rfl rfl Try.func22 (by kernel_rfl) (by kernel_rfl) (args := #[.pointer (some ⟨g, 0, none⟩), .agg #[.int .i64 k1, .string s1, .int .i64 n1, .slice a1 l1 c1]]) (by simp [Act.eval]; exact ⟨by simpa using y0, by simpa using y2⟩) ?_
      refine Calls.mono (HC1.out u (hA hli)) ?_
      intro e w3 hkp
      obtain ⟨k5, s5, n5, a5, l5, c5, F1, rfl, o1, f1, nd1, hp3, hr3, hb3, hs3, hnx⟩ := HAFT.out e w3 hkp
      exact ⟨_, rfl, h0, h1, h2, h4, h5, h6, hp3, hr3, fun h => Bool.noConfusion (show true = false from h), fun _ _ => ⟨w3, k5, s5, n5, a5, l5, c5, F1, rfl, o1, f1, nd1, hs3, Below.refl _ _, hnx⟩, fun h => Bool.noConfusion ((show L 7 = true from h).symm.trans h7)⟩
    | 4, _ =>
      obtain rfl : _ = o := by simpa using ho
      refine FI.fact_value (w' := u) (v := .pointer (some ⟨g, 0, none⟩)) rfl ?_ ⟨h0, h1, h2, fun _ => rfl, h5, h6, hpu, hru, hA, hB, hC⟩
      simp only [execOp, Act.eval, u3]
      go_simp
    | 5, _ =>
      obtain rfl : _ = o := by simpa using ho
      refine FI.fact_value (w' := u) (v := .pointer (some ⟨p, 4, none⟩)) rfl ?_ ⟨h0, h1, h2, h4, fun _ => rfl, h6, hpu, hru, hA, hB, hC⟩
      simp only [execOp, Act.eval, u1]
      go_simp
    | 6, _ =>
      obtain rfl : _ = o := by simpa using ho
      have y5 : a.tmps.getD 10 undef = .pointer (some ⟨p, 4, none⟩) := h5 (hdep 5 (by kernel_rfl))
      refine FI.fact_value (w' := u) (v := .agg #[.int .i64 k2, .string s2, .int .i64 n2, .slice a2 l2 c2]) rfl ?_ ⟨h0, h1, h2, h4, h5, fun _ => rfl, hpu, hru, hA, hB, hC⟩
      clear h0 h1 h2 h4 h5 h6 hA hB hC hcl hdep hfr ho
      simp only [execOp, Act.eval, y5]
      go_simp
    | 7, _ =>
      obtain rfl : _ = o := by simpa using ho
      have y4 : a.tmps.getD 9 undef = .pointer (some ⟨g, 0, none⟩) := h4 (hdep 4 (by kernel_rfl))
      have y6 : a.tmps.getD 11 undef = .agg #[.int .i64 k2, .string s2, .int .i64 n2, .slice a2 l2 c2] := h6 (hdep 6 (by kernel_rfl))
      have h8 : L 8 = false := by cases h : L 8 with | false => rfl | true => rw [c87 h] at hli; cases hli
      obtain ⟨w3, k5, s5, n5, a5, l5, c5, F1, v3, o1, f1, nd1, hs3, hb3, hnx⟩ := hB (hdep 3 (by kernel_rfl)) hli
      refine FI.fact_call rfl rfl Try.func22 (by kernel_rfl) (by kernel_rfl) (args := #[.pointer (some ⟨g, 0, none⟩), .agg #[.int .i64 k2, .string s2, .int .i64 n2, .slice a2 l2 c2]]) (by simp [Act.eval]; exact ⟨by simpa using y4, by simpa using y6⟩) ?_
      refine Calls.mono (hnx u hb3) ?_
      rintro e w4 ⟨k6, s6, n6, a6, l6, c6, F2, rfl, o2, f2, nd2, hp4, hr4, hb4, hs4, oH⟩
      have l1 := Own.lt _ _ _ o1
      exact ⟨_, rfl, h0, h1, h2, h4, h5, h6, hp4, hr4, fun h => Bool.noConfusion ((show L 3 = false from h).symm.trans (hdep 3 (by kernel_rfl))), fun _ h => Bool.noConfusion (show true = false from h),
        fun _ => ⟨w4, k5, s5, n5, a5, l5, c5, F1, k6, s6, n6, a6, l6, c6, F2, v3, rfl, oH, o2, f1, fun x hx => by have := f2 x hx; omega, nd1, nd2, fun x hx h => by have := l1 x hx; have := f2 x h; omega, hb4, (Array.getElem?_eq_some_iff.1 hr4).1, Below.refl _ _, fun h => Bool.noConfusion ((show L 8 = true from h).symm.trans h8)⟩⟩
    | 8, _ =>
      obtain rfl : _ = o := by simpa using ho
      have h9 : L 9 = false := by cases h : L 9 with | false => rfl | true => rw [c98 h] at hli; cases hli
      obtain ⟨w4, k5, s5, n5, a5, l5, c5, F1, k6, s6, n6, a6, l6, c6, F2, v3, v7, oH, o2, f1, f2, nd1, nd2, dj, hb4, hp4, hbu, _⟩ := hC (hdep 7 (by kernel_rfl))
      have y3 : a.tmps.getD 8 undef = .agg #[.int .i64 k5, .string s5, .int .i64 n5, .slice a5 l5 c5] := v3
      have y7 : a.tmps.getD 12 undef = .agg #[.int .i64 k6, .string s6, .int .i64 n6, .slice a6 l6 c6] := v7
      have e9 : (#[((0 : Nat), Operand.tmp 8), (1, Operand.tmp 12)].map fun x => (x.1, a.eval x.2)) = #[(0, .agg #[.int .i64 k5, .string s5, .int .i64 n5, .slice a5 l5 c5]), (1, .agg #[.int .i64 k6, .string s6, .int .i64 n6, .slice a6 l6 c6])] := by
        simp [Act.eval]
        exact ⟨by simpa using y3, by simpa using y7⟩
      have bA : Below u.heap.size u (u.alloc (.cells #[.int .i64 k5, .string s5, .int .i64 n5, .slice a5 l5 c5, .int .i64 k6, .string s6, .int .i64 n6, .slice a6 l6 c6] 31)) := (Below.refl _ _).alloc (Nat.le_refl _) _
      refine FI.fact_value (w' := u.alloc (.cells #[.int .i64 k5, .string s5, .int .i64 n5, .slice a5 l5 c5, .int .i64 k6, .string s6, .int .i64 n6, .slice a6 l6 c6] 31)) (v := .slice (some ⟨u.heap.size, 0, none⟩) 2 2) rfl ?_ ⟨h0, h1, h2, h4, h5, h6, (bA.block _ (Array.getElem?_eq_some_iff.1 hpu).1).trans hpu, (bA.block _ (Array.getElem?_eq_some_iff.1 hru).1).trans hru, fun h => (hA h).trans (bA.mono (hA h).size), fun h h' => Bool.noConfusion ((show L 7 = false from h').symm.trans (hdep 7 (by kernel_rfl))),
        fun _ => ⟨w4, k5, s5, n5, a5, l5, c5, F1, k6, s6, n6, a6, l6, c6, F2, v3, v7, oH, o2, f1, f2, nd1, nd2, dj, hb4, hp4, hbu.trans (bA.mono hbu.size), fun _ => ⟨u.heap.size, fun _ => rfl, fun h => Bool.noConfusion ((show L 9 = true from h).symm.trans h9), hbu.size, heap_alloc_new _ _⟩⟩⟩
      clear h0 h1 h2 h4 h5 h6 hA hB hC hcl hdep hfr ho
      simp only [execOp, e9]
      go_simp
    | 9, _ =>
      obtain rfl : _ = o := by simpa using ho
      obtain ⟨w4, k5, s5, n5, a5, l5, c5, F1, k6, s6, n6, a6, l6, c6, F2, v3, v7, oH, o2, f1, f2, nd1, nd2, dj, hb4, hp4, hbu, hb8⟩ := hC (c87 (hdep 8 (by kernel_rfl)))
      obtain ⟨b, v8, _, hwb, hkb⟩ := hb8 (hdep 8 (by kernel_rfl))
      have y8 : a.tmps.getD 13 undef = .slice (some ⟨b, 0, none⟩) 2 2 := v8 hli
      refine FI.fact_call rfl rfl Try.func21 (by kernel_rfl) (by kernel_rfl) (args := #[.string cIf, .slice (some ⟨b, 0, none⟩) 2 2]) (by simp [Act.eval, cIf]; simpa using y8) ?_
      refine Calls.mono (HSO.out (some ⟨b, 0, none⟩) u) ?_
      rintro e w6 ⟨rfl, hb⟩
      exact ⟨_, rfl, h0, h1, h2, h4, h5, h6, (hb.block _ (Array.getElem?_eq_some_iff.1 hpu).1).trans hpu, (hb.block _ (Array.getElem?_eq_some_iff.1 hru).1).trans hru, fun h => (hA h).trans (hb.mono (hA h).size), fun h h' => Bool.noConfusion ((show L 7 = false from h').symm.trans (c87 (hdep 8 (by kernel_rfl)))),
        fun _ => ⟨w4, k5, s5, n5, a5, l5, c5, F1, k6, s6, n6, a6, l6, c6, F2, v3, v7, oH, o2, f1, f2, nd1, nd2, dj, hb4, hp4, hbu.trans (hb.mono hbu.size), fun _ => ⟨b, fun h => Bool.noConfusion (show true = false from h), fun _ => rfl, hwb, (hb.block _ (Array.getElem?_eq_some_iff.1 hkb).1).trans hkb⟩⟩⟩
  intro L vals w6 hall hI
  obtain ⟨_, _, _, _, _, _, _, hru, _, _, hC⟩ := hI
  obtain ⟨w4, k5, s5, n5, a5, l5, c5, F1, k6, s6, n6, a6, l6, c6, F2, v3, v7, oH, o2, f1, f2, nd1, nd2, dj, hb4, hp4, hbu, hb8⟩ := hC (hall 7 (by omega))
  obtain ⟨b, _, v9, hwb, hkb⟩ := hb8 (hall 8 (by omega))
  have e9 := v9 (hall 9 (by omega))
  simp only [FZ.putN, List.getElem?_toArray, List.getElem?_cons_zero, List.getElem?_cons_succ, Option.bind_some, List.drop_succ_cons, List.drop_zero, e9]
  generalize vals 0 = m0
  generalize vals 1 = m1
  generalize vals 2 = m2
  generalize vals 3 = m3
  generalize vals 4 = m4
  generalize vals 5 = m5
  generalize vals 6 = m6
  generalize vals 7 = m7
  generalize vals 8 = m8
  simp only [Act.put, List.setIfInBounds_toArray, List.set_cons_succ, List.set_cons_zero]
  have HRU : Hid (w6.heap[p + 1]? = some (.cells #[.int .i64 0, .string ⟨#[]⟩, .int .i64 0, .slice none 0 0] 31 (0, 0))) := hru
  have HALL : Hid (Own 31 w4 H (.agg #[.int .i64 k5, .string s5, .int .i64 n5, .slice a5 l5 c5]) F1 ∧ Own 31 w4 B (.agg #[.int .i64 k6, .string s6, .int .i64 n6, .slice a6 l6 c6]) F2 ∧ (∀ x ∈ F1, w1.heap.size ≤ x) ∧ (∀ x ∈ F2, w1.heap.size ≤ x) ∧ F1.Nodup ∧ F2.Nodup ∧ (∀ x ∈ F1, x ∉ F2) ∧ Below p w w4 ∧ p + 1 < w4.heap.size ∧ Below w4.heap.size w4 w6 ∧ w4.heap.size ≤ b ∧ w6.heap[b]? = some (.cells #[.int .i64 k5, .string s5, .int .i64 n5, .slice a5 l5 c5, .int .i64 k6, .string s6, .int .i64 n6, .slice a6 l6 c6] 31 (0, 0))) := ⟨oH, o2, f1, f2, nd1, nd2, dj, hb4, hp4, hbu, hwb, hkb⟩
  obtain ⟨z0, z1, z2, z3, g0, g1, g2, g3⟩ := blk4 hru
  clear hC hru v3 v7 oH o2 f1 f2 nd1 nd2 dj hb4 hp4 hbu hb8 v9 hwb hkb e9 hall
  go_wp2
  refine bodyPost_ret_by (results_cell_row rfl _ _ (p + 1) 31 _ (0, 0) _ rfl (blk4_set HRU.out) Try.underlying31 rfl (by kernel_rfl)) rfl ?_
  obtain ⟨oH, o2, f1, f2, nd1, nd2, dj, hb4, hp4, hbu, hwb, hkb⟩ := HALL.out
  have hsz := HS1.out
  have hpp := HPP.out
  have hkb' : ∀ e0 e1 e2 e3, ((((w6.setCell ⟨p + 1, 0, none⟩ e0).setCell ⟨p + 1, 1, none⟩ e1).setCell ⟨p + 1, 2, none⟩ e2).setCell ⟨p + 1, 3, none⟩ e3).heap[b]? = some (.cells #[.int .i64 k5, .string s5, .int .i64 n5, .slice a5 l5 c5, .int .i64 k6, .string s6, .int .i64 n6, .slice a6 l6 c6] 31 (0, 0)) := fun e0 e1 e2 e3 => (blk4_other (by omega)).trans hkb
  have hke : ∀ e0 e1 e2 e3 x, x < w4.heap.size → x ≠ p + 1 → ((((w6.setCell ⟨p + 1, 0, none⟩ e0).setCell ⟨p + 1, 1, none⟩ e1).setCell ⟨p + 1, 2, none⟩ e2).setCell ⟨p + 1, 3, none⟩ e3).heap[x]? = w4.heap[x]? := fun e0 e1 e2 e3 x h h' => (blk4_other h').trans (hbu.block x h)
  have hbl : ∀ e0 e1 e2 e3, Below p w ((((w6.setCell ⟨p + 1, 0, none⟩ e0).setCell ⟨p + 1, 1, none⟩ e1).setCell ⟨p + 1, 2, none⟩ e2).setCell ⟨p + 1, 3, none⟩ e3) := fun e0 e1 e2 e3 => blk4_below (hb4.trans (hbu.mono (by omega))) (by omega)
  have l2 := Own.lt _ _ _ o2
  have lH := Own.lt _ _ _ oH
  rw [← hpp]
  refine ⟨_, b :: (F1 ++ F2), rfl, own_two (hkb' _ _ _ _) (Own.keep _ _ _ oH fun x hx => hke _ _ _ _ x (lH x hx) (by have := f1 x hx; omega)) (Own.keep _ _ _ o2 fun x hx => hke _ _ _ _ x (l2 x hx) (by have := f2 x hx; omega)) (by show 2 ≤ maxLen; unfold maxLen; omega), fun x hx => ?_, ?_, hbl _ _ _ _⟩
  · rcases List.mem_cons.1 hx with rfl | hx
    · omega
    · rcases List.mem_append.1 hx with hx | hx
      · have := f1 x hx; omega
      · have := f2 x hx; omega
  · rw [List.nodup_cons]
    refine ⟨fun h => ?_, List.nodup_append.2 ⟨nd1, nd2, fun x hx y hy e => dj x hx (e ▸ hy)⟩⟩
    rcases List.mem_append.1 h with h | h
    · have := lH _ h; omega
    · have := l2 _ h; omega
end Go.Proofs.Ytenmhpalpfppmao
