/- Four texts in one. -/
import Derived.Test.YtmhmlkdoaojimapDoorMrg8
import Derived.Test.YtmhmlkdoaojimapDoorMrg6
import Derived.Deep.DeepCutAuto
import Derived.Test.YtmhmlkdoaojimapDoorMrg2
import Derived.Test.YtmhmlkdoaojimapDoorMrg1
import Derived.Laws.MakeOwn
import Derived.Test.YtmhmlkdoaojimapDoorRows
import Derived.ProofKit
import Derived.BigQuiet
/- laws.toClause. -/
namespace Go.Proofs.YtmhmlkdoaojimapDoor
open Go.RowKit

theorem blk9_set4c {w : World} {g : Nat} {c0 c1 c2 c3 c4 c5 c6 c7 c8 d0 d1 d2 d3 : Value} {T : TypeId} (h : w.heap[g]? = some (.cells #[c0, c1, c2, c3, c4, c5, c6, c7, c8] T (0, 0))) :
    ((((w.setCell ⟨g, 0, none⟩ d0).setCell ⟨g, 1, none⟩ d1).setCell ⟨g, 2, none⟩ d2).setCell ⟨g, 3, none⟩ d3).heap[g]? = some (.cells #[d0, d1, d2, d3, c4, c5, c6, c7, c8] T (0, 0)) := by
  have := blk_set (i := 3) (blk_set (i := 2) (blk_set (i := 1) (blk_set (i := 0) h d0) d1) d2) d3
  simpa using this
theorem set4c_other {w : World} {g f : Nat} {d0 d1 d2 d3 : Value} (h : f ≠ g) :
    ((((w.setCell ⟨g, 4, none⟩ d0).setCell ⟨g, 5, none⟩ d1).setCell ⟨g, 6, none⟩ d2).setCell ⟨g, 7, none⟩ d3).heap[f]? = w.heap[f]? := by
  rw [blk_other _ h, blk_other _ h, blk_other _ h, blk_other _ h]

set_option maxHeartbeats 4000000 in
set_option maxRecDepth 20000 in
theorem to_clause (H B : Tm) (f : ByteArray) (w : World) (k1 s1 n1 a1 l1 c1 k2 s2 n2 a2 l2 c2) (h1 : TmIn w H (.agg #[.int .i64 k1, .string s1, .int .i64 n1, .slice a1 l1 c1])) (h2 : TmIn w B (.agg #[.int .i64 k2, .string s2, .int .i64 n2, .slice a2 l2 c2])) (o1 : H.wt ≤ 1048576) (o2 : B.wt ≤ 1048576) :
    Calls Tryd.prog 60 #[.agg #[.int .i64 k1, .string s1, .int .i64 n1, .slice a1 l1 c1, .int .i64 k2, .string s2, .int .i64 n2, .slice a2 l2 c2, .string f]] w fun e w' => ∃ k s n ao l c k' s' n' ao' l' c' F G, e = .returned (.agg #[.int .i64 k, .string s, .int .i64 n, .slice ao l c, .int .i64 k', .string s', .int .i64 n', .slice ao' l' c', .string f]) ∧ Own 46 w' H (.agg #[.int .i64 k, .string s, .int .i64 n, .slice ao l c]) F ∧ Own 46 w' B (.agg #[.int .i64 k', .string s', .int .i64 n', .slice ao' l' c']) G ∧
      (∀ x ∈ F, w.heap.size ≤ x) ∧ (∀ x ∈ G, w.heap.size ≤ x) ∧ F.Nodup ∧ G.Nodup ∧ (∀ x ∈ G, x ∉ F) ∧ Below w.heap.size w w' := by
  obtain ⟨W, hW⟩ : ∃ W, W = ((w.alloc (.cells #[.int .i64 k1, .string s1, .int .i64 n1, .slice a1 l1 c1, .int .i64 k2, .string s2, .int .i64 n2, .slice a2 l2 c2, .string f] 88)).alloc (.cells #[.int .i64 0, .string ⟨#[]⟩, .int .i64 0, .slice none 0 0, .int .i64 0, .string ⟨#[]⟩, .int .i64 0, .slice none 0 0, .string ⟨#[]⟩] 57)).alloc (.cells #[.int .i64 0, .string ⟨#[]⟩, .int .i64 0, .slice none 0 0, .int .i64 0, .string ⟨#[]⟩, .int .i64 0, .slice none 0 0, .string ⟨#[]⟩] 57) := ⟨_, rfl⟩
  have bW : Below w.heap.size w W := by rw [hW]; exact (((Below.refl _ _).alloc (Nat.le_refl _) _).alloc (by simp) _).alloc (by simp; omega) _
  have lW : W.heap.size = w.heap.size + 3 := by rw [hW]; simp
  have k1' : W.heap[w.heap.size]? = some (.cells #[.int .i64 k1, .string s1, .int .i64 n1, .slice a1 l1 c1, .int .i64 k2, .string s2, .int .i64 n2, .slice a2 l2 c2, .string f] 88 (0, 0)) := by rw [hW]; exact (alloc_old _ _ (by simp; omega)).trans ((alloc_old _ _ (by simp)).trans (alloc_at _ _ rfl))
  have k2' : W.heap[w.heap.size + 1]? = some (.cells #[.int .i64 0, .string ⟨#[]⟩, .int .i64 0, .slice none 0 0, .int .i64 0, .string ⟨#[]⟩, .int .i64 0, .slice none 0 0, .string ⟨#[]⟩] 57 (0, 0)) := by rw [hW]; exact (alloc_old _ _ (by simp)).trans (alloc_at _ _ (by simp))
  have k3' : W.heap[w.heap.size + 2]? = some (.cells #[.int .i64 0, .string ⟨#[]⟩, .int .i64 0, .slice none 0 0, .int .i64 0, .string ⟨#[]⟩, .int .i64 0, .slice none 0 0, .string ⟨#[]⟩] 57 (0, 0)) := by rw [hW]; exact alloc_at _ _ (by simp)
  have HC1 : Hid _ := to_term H W _ (TmIn.keep bW _ _ h1) o1
  have HC2 : Hid (∀ w1, Below w.heap.size w w1 → Calls Tryd.prog 22 #[.agg #[.int .i64 k2, .string s2, .int .i64 n2, .slice a2 l2 c2]] w1 fun e w' => ∃ v' F, e = .returned v' ∧ Own 46 w' B v' F ∧ (∀ x ∈ F, w1.heap.size ≤ x) ∧ F.Nodup ∧ Below w1.heap.size w1 w') := fun w1 hb => to_term B w1 _ (TmIn.keep hb _ _ h2) o2
  have HBW : Hid (Below w.heap.size w W) := bW
  have HL : Hid (W.heap.size = w.heap.size + 3) := lW
  have HK1 : Hid (W.heap[w.heap.size]? = _) := k1'
  have HK2 : Hid (W.heap[w.heap.size + 1]? = _) := k2'
  have HK3 : Hid (W.heap[w.heap.size + 2]? = _) := k3'
  clear h1 h2 o1 o2 bW lW k1' k2' k3'
  go_enter Tryd.func60, Tryd.ntmps60
  go_upto_region 2 with fail
  rw [← hW]
  clear hW
  obtain ⟨p, hp⟩ : ∃ p, p = w.heap.size := ⟨_, rfl⟩
  rw [← hp] at HL HK1 HK2 HK3 ⊢
  have HPP : Hid (p = w.heap.size) := hp
  clear hp
  have hpq : p ≠ p + 2 := by omega
  obtain ⟨⟨y0, y1, y2, y3, y4, y5, y6, y7, y8⟩, _⟩ := blk9 HK1.out
  go_upto_region 3 with (go_at_call 22; refine (Calls.mono HC1.out ?_); rintro e w1 ⟨v', F, rfl, o, hf, nd, hb⟩; obtain ⟨k3, s3, n3, a3, l3, c3, rfl⟩ := own_shape o; have HO1 : Hid _ := o; have HF1 : Hid ((∀ x ∈ F, p + 3 ≤ x) ∧ F.Nodup) := ⟨fun x hx => by have := hf x hx; have := HL.out; omega, nd⟩; have HB1 : Hid (Below W.heap.size W w1) := hb; have hk := (hb.block _ (Array.getElem?_eq_some_iff.1 HK3.out).1).trans HK3.out; have HKP : Hid _ := hk; clear o hf nd hb; clear y0 y1 y2 y3 y4 y5 y6 y7 y8; obtain ⟨⟨z0, z1, z2, z3, z4, z5, z6, z7, z8⟩, g0, g1, g2, g3, g4, g5, g6, g7, g8⟩ := blk9 hk; clear hk)
  clear z0 z1 z2 z3 z4 z5 z6 z7 z8 g0 g1 g2 g3 g4 g5 g6 g7 g8
  obtain ⟨V1, hV1⟩ : ∃ V1, V1 = ((((w1.setCell ⟨p + 1 + 1, 0, none⟩ (.int .i64 k3)).setCell ⟨p + 1 + 1, 1, none⟩ (.string s3)).setCell ⟨p + 1 + 1, 2, none⟩ (.int .i64 n3)).setCell ⟨p + 1 + 1, 3, none⟩ (.slice a3 l3 c3)) := ⟨_, rfl⟩
  first | rw [← hV1] | (have hV1' := hV1; simp only [Nat.add_assoc, Nat.reduceAdd] at hV1'; rw [← hV1'])
  replace hV1 : V1 = ((((w1.setCell ⟨p + 2, 0, none⟩ (.int .i64 k3)).setCell ⟨p + 2, 1, none⟩ (.string s3)).setCell ⟨p + 2, 2, none⟩ (.int .i64 n3)).setCell ⟨p + 2, 3, none⟩ (.slice a3 l3 c3)) := hV1
  have b1 : Below p w V1 := by rw [hV1]; exact blk4_below (by rw [HPP.out]; exact HBW.out.trans (HB1.out.mono HBW.out.size)) (by omega)
  have hk1 : V1.heap[p]? = some (.cells #[.int .i64 k1, .string s1, .int .i64 n1, .slice a1 l1 c1, .int .i64 k2, .string s2, .int .i64 n2, .slice a2 l2 c2, .string f] 88 (0, 0)) := by rw [hV1]; exact (blk4_other (by omega)).trans ((HB1.out.block _ (Array.getElem?_eq_some_iff.1 HK1.out).1).trans HK1.out)
  have hk2 : V1.heap[p + 1]? = some (.cells #[.int .i64 0, .string ⟨#[]⟩, .int .i64 0, .slice none 0 0, .int .i64 0, .string ⟨#[]⟩, .int .i64 0, .slice none 0 0, .string ⟨#[]⟩] 57 (0, 0)) := by rw [hV1]; exact (blk4_other (by omega)).trans ((HB1.out.block _ (Array.getElem?_eq_some_iff.1 HK2.out).1).trans HK2.out)
  have hk3 : V1.heap[p + 2]? = some (.cells #[.int .i64 k3, .string s3, .int .i64 n3, .slice a3 l3 c3, .int .i64 0, .string ⟨#[]⟩, .int .i64 0, .slice none 0 0, .string ⟨#[]⟩] 57 (0, 0)) := by rw [hV1]; exact blk9_set4c HKP.out
  have hs1 : V1.heap.size = w1.heap.size := by rw [hV1]; simp [World.setCell]
  have HOV : Hid (Own 46 V1 H (.agg #[.int .i64 k3, .string s3, .int .i64 n3, .slice a3 l3 c3]) F) := by rw [hV1]; exact Own.keep _ _ _ HO1.out fun x hx => blk4_other (by have := HF1.out.1 x hx; omega)
  have HS1 : Hid (∀ x ∈ F, x < V1.heap.size) := fun x hx => by rw [hs1]; exact Own.lt _ _ _ HO1.out x hx
  have HB1V : Hid (Below w.heap.size w V1) := by show Below _ _ _; rw [← HPP.out]; exact b1
  have HP1 : Hid (p + 3 ≤ V1.heap.size) := by have := HB1.out.size; have := HL.out; show _ ≤ _; omega
  have HK4 : Hid (V1.heap[p]? = _ ∧ V1.heap[p + 1]? = _ ∧ V1.heap[p + 2]? = _) := ⟨hk1, hk2, hk3⟩
  have HC3 : Hid _ := HC2.out V1 HB1V.out
  clear hV1 b1 hs1 hk2 hk3 HKP HO1 HB1
  obtain ⟨⟨y0, y1, y2, y3, y4, y5, y6, y7, y8⟩, _⟩ := blk9 hk1
  clear hk1
  go_upto_region 4 with (go_at_call 22; refine (Calls.mono HC3.out ?_); rintro e w2 ⟨v', G, rfl, o, hf, nd, hb⟩; obtain ⟨k4, s4, n4, a4, l4, c4, rfl⟩ := own_shape o; have HO2 : Hid _ := o; have HG : Hid ((∀ x ∈ G, V1.heap.size ≤ x) ∧ G.Nodup) := ⟨hf, nd⟩; have HB2 : Hid (Below V1.heap.size V1 w2) := hb; have hk := (hb.block _ (Array.getElem?_eq_some_iff.1 HK4.out.2.2).1).trans HK4.out.2.2; have HKP : Hid _ := hk; clear o hf nd hb; clear y0 y1 y2 y3 y4 y5 y6 y7 y8; obtain ⟨⟨z0, z1, z2, z3, z4, z5, z6, z7, z8⟩, g0, g1, g2, g3, g4, g5, g6, g7, g8⟩ := blk9 hk; clear hk)
  clear z0 z1 z2 z3 z4 z5 z6 z7 z8 g0 g1 g2 g3 g4 g5 g6 g7 g8
  obtain ⟨V2, hV2⟩ : ∃ V2, V2 = ((((w2.setCell ⟨p + 1 + 1, 4, none⟩ (.int .i64 k4)).setCell ⟨p + 1 + 1, 5, none⟩ (.string s4)).setCell ⟨p + 1 + 1, 6, none⟩ (.int .i64 n4)).setCell ⟨p + 1 + 1, 7, none⟩ (.slice a4 l4 c4)) := ⟨_, rfl⟩
  first | rw [← hV2] | (have hV2' := hV2; simp only [Nat.add_assoc, Nat.reduceAdd] at hV2'; rw [← hV2'])
  replace hV2 : V2 = ((((w2.setCell ⟨p + 2, 4, none⟩ (.int .i64 k4)).setCell ⟨p + 2, 5, none⟩ (.string s4)).setCell ⟨p + 2, 6, none⟩ (.int .i64 n4)).setCell ⟨p + 2, 7, none⟩ (.slice a4 l4 c4)) := hV2
  have b2 : Below p w V2 := by rw [hV2]; exact below_set (below_set (below_set (below_set (by have := HB1V.out; rw [← HPP.out] at this; exact this.trans (HB2.out.mono (by have := HP1.out; omega))) (by omega) _) (by omega) _) (by omega) _) (by omega) _
  have hk1 : V2.heap[p]? = some (.cells #[.int .i64 k1, .string s1, .int .i64 n1, .slice a1 l1 c1, .int .i64 k2, .string s2, .int .i64 n2, .slice a2 l2 c2, .string f] 88 (0, 0)) := by rw [hV2]; exact (set4c_other (by omega)).trans ((HB2.out.block _ (Array.getElem?_eq_some_iff.1 HK4.out.1).1).trans HK4.out.1)
  have hk2 : V2.heap[p + 1]? = some (.cells #[.int .i64 0, .string ⟨#[]⟩, .int .i64 0, .slice none 0 0, .int .i64 0, .string ⟨#[]⟩, .int .i64 0, .slice none 0 0, .string ⟨#[]⟩] 57 (0, 0)) := by rw [hV2]; exact (set4c_other (by omega)).trans ((HB2.out.block _ (Array.getElem?_eq_some_iff.1 HK4.out.2.1).1).trans HK4.out.2.1)
  have hk3 : V2.heap[p + 2]? = some (.cells #[.int .i64 k3, .string s3, .int .i64 n3, .slice a3 l3 c3, .int .i64 k4, .string s4, .int .i64 n4, .slice a4 l4 c4, .string ⟨#[]⟩] 57 (0, 0)) := by rw [hV2]; exact blk9_set4b HKP.out
  have HO3 : Hid (Own 46 V2 H (.agg #[.int .i64 k3, .string s3, .int .i64 n3, .slice a3 l3 c3]) F) := by rw [hV2]; exact Own.keep _ _ _ HOV.out fun x hx => (set4c_other (by have := HF1.out.1 x hx; omega)).trans (HB2.out.block x (HS1.out x hx))
  have HO4 : Hid (Own 46 V2 B (.agg #[.int .i64 k4, .string s4, .int .i64 n4, .slice a4 l4 c4]) G) := by rw [hV2]; exact Own.keep _ _ _ HO2.out fun x hx => set4c_other (by have := HG.out.1 x hx; have := HP1.out; omega)
  have HV2 : Hid (Below p w V2) := b2
  have HK5 : Hid (V2.heap[p + 1]? = _ ∧ V2.heap[p + 2]? = _) := ⟨hk2, hk3⟩
  clear hV2 b2 HKP HO2 HOV hk2
  obtain ⟨⟨y0, y1, y2, y3, y4, y5, y6, y7, y8⟩, _⟩ := blk9 hk1
  obtain ⟨⟨z0, z1, z2, z3, z4, z5, z6, z7, z8⟩, g0, g1, g2, g3, g4, g5, g6, g7, g8⟩ := blk9 hk3
  clear hk1 hk3
  go_upto_region 5 with fail
  clear y0 y1 y2 y3 y4 y5 y6 y7 y8 z0 z1 z2 z3 z4 z5 z6 z7 z8 g0 g1 g2 g3 g4 g5 g6 g7 g8
  obtain ⟨V3, hV3⟩ : ∃ V3, V3 = V2.setCell ⟨p + 1 + 1, 8, none⟩ (.string f) := ⟨_, rfl⟩
  first | rw [← hV3] | (have hV3' := hV3; simp only [Nat.add_assoc, Nat.reduceAdd] at hV3'; rw [← hV3'])
  replace hV3 : V3 = V2.setCell ⟨p + 2, 8, none⟩ (.string f) := hV3
  have hk2 : V3.heap[p + 1]? = some (.cells #[.int .i64 0, .string ⟨#[]⟩, .int .i64 0, .slice none 0 0, .int .i64 0, .string ⟨#[]⟩, .int .i64 0, .slice none 0 0, .string ⟨#[]⟩] 57 (0, 0)) := by rw [hV3]; exact (blk_other _ (by omega)).trans HK5.out.1
  have hk3 : V3.heap[p + 2]? = some (.cells #[.int .i64 k3, .string s3, .int .i64 n3, .slice a3 l3 c3, .int .i64 k4, .string s4, .int .i64 n4, .slice a4 l4 c4, .string f] 57 (0, 0)) := by rw [hV3]; simpa using blk_set (i := 8) HK5.out.2 (.string f)
  have HFIN : Hid (∀ d0 d1 d2 d3 d4 d5 d6 d7 d8, Own 46 (set9 V3 (p + 1) d0 d1 d2 d3 d4 d5 d6 d7 d8) H (.agg #[.int .i64 k3, .string s3, .int .i64 n3, .slice a3 l3 c3]) F ∧ Own 46 (set9 V3 (p + 1) d0 d1 d2 d3 d4 d5 d6 d7 d8) B (.agg #[.int .i64 k4, .string s4, .int .i64 n4, .slice a4 l4 c4]) G ∧
      (∀ x ∈ F, p ≤ x) ∧ (∀ x ∈ G, p ≤ x) ∧ F.Nodup ∧ G.Nodup ∧ (∀ x ∈ G, x ∉ F) ∧ Below p w (set9 V3 (p + 1) d0 d1 d2 d3 d4 d5 d6 d7 d8)) := fun d0 d1 d2 d3 d4 d5 d6 d7 d8 =>
    ⟨Own.keep _ _ _ HO3.out fun x hx => (blk9_other (by have := HF1.out.1 x hx; omega)).trans (by rw [hV3]; exact blk_other _ (by have := HF1.out.1 x hx; omega)), Own.keep _ _ _ HO4.out fun x hx => (blk9_other (by have := HG.out.1 x hx; have := HP1.out; omega)).trans (by rw [hV3]; exact blk_other _ (by have := HG.out.1 x hx; have := HP1.out; omega)), fun x hx => by have := HF1.out.1 x hx; omega, fun x hx => by have := HG.out.1 x hx; have := HP1.out; omega, HF1.out.2, HG.out.2, fun x hx h => by have := HG.out.1 x hx; have := HS1.out x h; omega, blk9_below (by rw [hV3]; exact below_set HV2.out (by omega) _) (by omega)⟩
  have HZ : Hid _ := hk2
  clear hV3
  obtain ⟨⟨z0, z1, z2, z3, z4, z5, z6, z7, z8⟩, _⟩ := blk9 hk3
  obtain ⟨⟨cc0, cc1, cc2, cc3, cc4, cc5, cc6, cc7, cc8⟩, g0, g1, g2, g3, g4, g5, g6, g7, g8⟩ := blk9 hk2
  clear hk2 hk3
  go_wp2
  refine bodyPost_ret_by (results_cell_row rfl _ _ (p + 1) 57 _ (0, 0) _ rfl (blk9_set HZ.out) Tryd.underlying57 rfl (by kernel_rfl)) rfl ?_
  rw [← HPP.out]
  exact ⟨_, _, _, _, _, _, _, _, _, _, _, _, F, G, rfl, HFIN.out _ _ _ _ _ _ _ _ _⟩
end Go.Proofs.YtmhmlkdoaojimapDoor

/- A row of clauses in blocks of their own. -/
namespace Go.Proofs.YtmhmlkdoaojimapDoor
open Go.RowKit

/-- one clause, its nine cells -/
def OwnC (e : TypeId) (w : World) (c : Cla) (cs : List Value) (F : List Nat) : Prop :=
  ∃ k1 s1 n1 a1 l1 m1 k2 s2 n2 a2 l2 m2 F1 F2, cs = [.int .i64 k1, .string s1, .int .i64 n1, .slice a1 l1 m1, .int .i64 k2, .string s2, .int .i64 n2, .slice a2 l2 m2, .string c.f] ∧ F = F1 ++ F2 ∧ c.f.size ≤ maxLen ∧
    Own e w c.h (.agg #[.int .i64 k1, .string s1, .int .i64 n1, .slice a1 l1 m1]) F1 ∧ Own e w c.b (.agg #[.int .i64 k2, .string s2, .int .i64 n2, .slice a2 l2 m2]) F2
/-- the cells of a row, nine each -/
def OwnCs (e : TypeId) (w : World) : List Cla → List Value → List Nat → Prop
  | [], cs, F => cs = [] ∧ F = []
  | c :: ks, cs, F => ∃ c1 c2 F1 F2, cs = c1 ++ c2 ∧ F = F1 ++ F2 ∧ OwnC e w c c1 F1 ∧ OwnCs e w ks c2 F2
/-- a slice of clauses, its own row and theirs -/
def OwnClS (ec e : TypeId) (w : World) (ks : List Cla) (sl : Value) (F : List Nat) : Prop :=
  (sl = .slice none 0 0 ∧ ks = [] ∧ F = []) ∨ ∃ g cap cs F', sl = .slice (some ⟨g, 0, none⟩) ks.length cap ∧ w.ownsRow 0 ec 9 sl ks.length cs ∧ F = g :: F' ∧ OwnCs e w ks cs F'

theorem OwnC.keep {e : TypeId} {w w' : World} {c : Cla} {cs : List Value} {F : List Nat} (h : OwnC e w c cs F) (hF : ∀ f ∈ F, w'.heap[f]? = w.heap[f]?) : OwnC e w' c cs F := by
  obtain ⟨k1, s1, n1, a1, l1, m1, k2, s2, n2, a2, l2, m2, F1, F2, rfl, rfl, hf, o1, o2⟩ := h
  exact ⟨k1, s1, n1, a1, l1, m1, k2, s2, n2, a2, l2, m2, F1, F2, rfl, rfl, hf, Own.keep _ _ _ o1 fun f h => hF f (by simp [h]), Own.keep _ _ _ o2 fun f h => hF f (by simp [h])⟩
theorem OwnC.lt {e : TypeId} {w : World} {c : Cla} {cs : List Value} {F : List Nat} (h : OwnC e w c cs F) : ∀ f ∈ F, f < w.heap.size := by
  obtain ⟨k1, s1, n1, a1, l1, m1, k2, s2, n2, a2, l2, m2, F1, F2, rfl, rfl, hf, o1, o2⟩ := h
  intro f hf
  rcases List.mem_append.1 hf with hf | hf
  · exact Own.lt _ _ _ o1 f hf
  · exact Own.lt _ _ _ o2 f hf
theorem OwnC.len {e : TypeId} {w : World} {c : Cla} {cs : List Value} {F : List Nat} (h : OwnC e w c cs F) : cs.length = 9 := by
  obtain ⟨k1, s1, n1, a1, l1, m1, k2, s2, n2, a2, l2, m2, F1, F2, rfl, _⟩ := h
  rfl
theorem OwnCs.keep {e : TypeId} {w w' : World} : ∀ (ks : List Cla) (cs : List Value) (F : List Nat), OwnCs e w ks cs F → (∀ f ∈ F, w'.heap[f]? = w.heap[f]?) → OwnCs e w' ks cs F
  | [], _, _, h, _ => h
  | c :: ks, cs, F, h, hF => by
    obtain ⟨c1, c2, F1, F2, rfl, rfl, h1, h2⟩ := h
    exact ⟨c1, c2, F1, F2, rfl, rfl, h1.keep fun f hf => hF f (by simp [hf]), OwnCs.keep ks c2 F2 h2 fun f hf => hF f (by simp [hf])⟩
theorem OwnCs.lt {e : TypeId} {w : World} : ∀ (ks : List Cla) (cs : List Value) (F : List Nat), OwnCs e w ks cs F → ∀ f ∈ F, f < w.heap.size
  | [], _, _, h => by obtain ⟨_, rfl⟩ := h; intro f hf; cases hf
  | c :: ks, cs, F, h => by
    obtain ⟨c1, c2, F1, F2, rfl, rfl, h1, h2⟩ := h
    intro f hf
    rcases List.mem_append.1 hf with hf | hf
    · exact h1.lt f hf
    · exact OwnCs.lt ks c2 F2 h2 f hf
theorem OwnCs.len {e : TypeId} {w : World} : ∀ (ks : List Cla) (cs : List Value) (F : List Nat), OwnCs e w ks cs F → cs.length = ks.length * 9
  | [], _, _, h => by obtain ⟨rfl, _⟩ := h; simp
  | c :: ks, cs, F, h => by
    obtain ⟨c1, c2, F1, F2, rfl, rfl, h1, h2⟩ := h
    have := h1.len
    have := OwnCs.len ks c2 F2 h2
    simp only [List.length_append, List.length_cons]; omega
theorem OwnCs.snoc {e : TypeId} {w : World} {c : Cla} {cc : List Value} {F2 : List Nat} (h2 : OwnC e w c cc F2) : ∀ (ks : List Cla) (cs : List Value) (F : List Nat), OwnCs e w ks cs F → OwnCs e w (ks ++ [c]) (cs ++ cc) (F ++ F2)
  | [], _, _, h => by
    obtain ⟨rfl, rfl⟩ := h
    exact ⟨cc, [], F2, [], by simp, by simp, h2, rfl, rfl⟩
  | c' :: ks, cs, F, h => by
    obtain ⟨d1, d2, F1, F3, rfl, rfl, h1, h3⟩ := h
    exact ⟨d1, d2 ++ cc, F1, F3 ++ F2, by simp, by simp, h1, OwnCs.snoc h2 ks d2 F3 h3⟩
/-- one of them -/
theorem OwnCs.at {e : TypeId} {w : World} : ∀ {ks : List Cla} {cs : List Value} {F : List Nat}, OwnCs e w ks cs F → ∀ (j : Nat) (hj : j < ks.length), ∃ F', OwnC e w ks[j] ((cs.drop (j * 9)).take 9) F' ∧ ∀ f ∈ F', f ∈ F
  | [], _, _, _, j, hj => by simp at hj
  | c :: ks, cs, F, h, 0, _ => by
    obtain ⟨c1, c2, F1, F2, rfl, rfl, h1, h2⟩ := h
    refine ⟨F1, ?_, fun f hf => by simp [hf]⟩
    have := h1.len
    rw [Nat.zero_mul, List.drop_zero, List.take_append_of_le_length (by omega), List.take_of_length_le (by omega)]
    exact h1
  | c :: ks, cs, F, h, j + 1, hj => by
    obtain ⟨c1, c2, F1, F2, rfl, rfl, h1, h2⟩ := h
    obtain ⟨F', o, hm⟩ := OwnCs.at h2 j (by simpa using hj)
    refine ⟨F', ?_, fun f hf => by simp [hm f hf]⟩
    have := h1.len
    rw [List.drop_append, List.drop_eq_nil_of_le (by omega), List.nil_append, show (j + 1) * 9 - c1.length = j * 9 by omega]
    exact o
theorem OwnClS.keep {ec e : TypeId} {w w' : World} {ks : List Cla} {sl : Value} {F : List Nat} (h : OwnClS ec e w ks sl F) (hF : ∀ f ∈ F, w'.heap[f]? = w.heap[f]?) : OwnClS ec e w' ks sl F := by
  rcases h with h | ⟨g, cap, cs, F', rfl, h5, rfl, h6⟩
  · exact Or.inl h
  · exact Or.inr ⟨g, cap, cs, F', rfl, row_keep h5 (hF g (by simp)), rfl, OwnCs.keep ks cs F' h6 (fun f hf => hF f (by simp [hf]))⟩
theorem OwnClS.lt {ec e : TypeId} {w : World} {ks : List Cla} {sl : Value} {F : List Nat} (h : OwnClS ec e w ks sl F) : ∀ f ∈ F, f < w.heap.size := by
  rcases h with ⟨_, _, rfl⟩ | ⟨g, cap, cs, F', rfl, h5, rfl, h6⟩
  · intro f hf; cases hf
  · intro f hf
    rcases List.mem_cons.1 hf with rfl | hf
    · exact (h5.lt _ rfl).2
    · exact OwnCs.lt ks cs F' h6 f hf
theorem ownClS_shape {ec e : TypeId} {w : World} {ks : List Cla} {sl : Value} {F : List Nat} (h : OwnClS ec e w ks sl F) : ∃ ao cap, sl = .slice ao ks.length cap := by
  rcases h with ⟨rfl, rfl, _⟩ | ⟨g, cap, cs, F', rfl, _⟩
  · exact ⟨none, 0, rfl⟩
  · exact ⟨_, cap, rfl⟩

theorem take_set1 {l : List Value} {i : Nat} {d : Value} (h : i < l.length) : (l.set i d).take (i + 1) = l.take i ++ [d] := by
  rw [List.take_succ_eq_append_getElem (by simpa using h), List.getElem_set_self, List.take_set_of_le (Nat.le_refl _)]
theorem set9_take {cur : Array Value} {j : Nat} {d0 d1 d2 d3 d4 d5 d6 d7 d8 : Value} (h : j * 9 + 8 < cur.size) :
    (((((((((cur.setIfInBounds (j * 9) d0).setIfInBounds (j * 9 + 1) d1).setIfInBounds (j * 9 + 2) d2).setIfInBounds (j * 9 + 3) d3).setIfInBounds (j * 9 + 4) d4).setIfInBounds (j * 9 + 5) d5).setIfInBounds (j * 9 + 6) d6).setIfInBounds (j * 9 + 7) d7).setIfInBounds (j * 9 + 8) d8).toList.take ((j + 1) * 9) = cur.toList.take (j * 9) ++ [d0, d1, d2, d3, d4, d5, d6, d7, d8] := by
  have hl : cur.toList.length = cur.size := by simp
  simp only [Array.toList_setIfInBounds]
  generalize cur.toList = l at *
  rw [show (j + 1) * 9 = j * 9 + 8 + 1 by omega, take_set1 (by simp only [List.length_set]; omega), take_set1 (by simp only [List.length_set]; omega), take_set1 (by simp only [List.length_set]; omega), take_set1 (by simp only [List.length_set]; omega), take_set1 (by simp only [List.length_set]; omega), take_set1 (by simp only [List.length_set]; omega), take_set1 (by simp only [List.length_set]; omega), take_set1 (by simp only [List.length_set]; omega), take_set1 (by omega)]
  simp
end Go.Proofs.YtmhmlkdoaojimapDoor

/- laws.toClauseS. -/
namespace Go.Proofs.YtmhmlkdoaojimapDoor
open Go.RowKit

theorem infoC : (Tryd.prog.info? 57).map (fun i => (i.zero, i.size, i.bytes)) = some (some (.agg #[.int .i64 0, .string ⟨#[]⟩, .int .i64 0, .slice none 0 0, .int .i64 0, .string ⟨#[]⟩, .int .i64 0, .slice none 0 0, .string ⟨#[]⟩]), 9, 128) := by kernel_rfl

theorem make_clauses (n : Nat) (h1 : n ≤ 1048576) : ∃ M : Array Value, M.size = n * 9 ∧
    (∀ W : World, (Instr.makeSlice 28 (.int .i64 (n : Int)) (.int .i64 (n : Int))).run Tryd.prog W = .ok (.slice (some ⟨W.heap.size, 0, none⟩) n n) (W.alloc (.cells M 57))) := by
  obtain ⟨i0, hi, hz0, hz1, hz2⟩ := info_parts infoC
  refine ⟨madeCells (Value.agg #[.int .i64 0, .string ⟨#[]⟩, .int .i64 0, .slice none 0 0, .int .i64 0, .string ⟨#[]⟩, .int .i64 0, .slice none 0 0, .string ⟨#[]⟩]).cells (n * i0.size), ?_, ?_⟩
  · rw [size_madeCells, hz1]
  · intro W
    have h := run_make (P := Tryd.prog) W 28 57 i0 _ Tryd.underlying28 hi hz0 .i64 .i64 n n (by omega) (by omega) (by rw [hz2]; omega) (by omega)
    simpa using h

theorem claWt_le {ks : List Cla} {c : Cla} (h : c ∈ ks) : c.wt ≤ claWts ks := by
  induction ks with
  | nil => cases h
  | cons a r ih =>
    simp only [claWts]
    rcases List.mem_cons.1 h with rfl | h
    · omega
    · have := ih h; omega

set_option maxHeartbeats 4000000 in
set_option maxRecDepth 20000 in
theorem to_clauses (ks : List Cla) (w : World) (sl : Value) (hlen : ks.length + claWts ks ≤ 1048576) (h : ClsIn w ks sl) :
    Calls Tryd.prog 30 #[sl] w fun e w' => ∃ sl F, e = .returned sl ∧ OwnClS 57 46 w' ks sl F ∧ (∀ f ∈ F, w.heap.size ≤ f) ∧ F.Nodup ∧ Below w.heap.size w w' := by
  obtain ⟨ao, cap, rfl, hcap, hmax, h⟩ := h
  clear hcap hmax
  obtain ⟨M, hM, hmk⟩ := make_clauses ks.length (by omega)
  go_enter Tryd.func30, Tryd.ntmps30
  go_wp2
  clear hmk
  go_loopw [4] (fun vi wr => ∃ (j : Nat) (cur : Array Value) (F : List Nat), j ≤ ks.length ∧ vi = .int .i64 (j : Int) ∧ Hid (Below w.heap.size w wr) ∧ wr.heap[w.heap.size]? = some (.cells cur 57 (0, 0)) ∧ cur.size = ks.length * 9 ∧
      Hid (OwnCs 46 wr (ks.take j) (cur.toList.take (j * 9)) F ∧ (∀ f ∈ F, w.heap.size < f) ∧ F.Nodup)) (fun i _ => ks.length - (intOf i).toNat)
  case atStart =>
    refine ⟨0, M, [], by omega, rfl, (Below.refl _ _).alloc (Nat.le_refl _) _, by rw [heap_alloc_new], hM, ?_⟩
    exact ⟨by simp [OwnCs], by simp, by simp⟩
  case round =>
    obtain ⟨j, cur, F, hj, rfl, HB, hblk, hcs, HO⟩ := hrel
    by_cases hlt : j < ks.length
    · obtain ⟨b, off, rfl, hin⟩ := h (by intro e; subst e; simp at hlt)
      obtain ⟨k1, s1, n1, a1, l1, m1, k2, s2, n2, a2, l2, m2, h0, h1, h2, h3, h4, h5, h6, h7, h8, hf, i1, i2⟩ := (hin j hlt).keep HB.out
      have hwj := claWt_le (List.getElem_mem hlt)
      have hwj1 : ks[j].h.wt ≤ 1048576 := by unfold Cla.wt at hwj; omega
      have hwj2 : ks[j].b.wt ≤ 1048576 := by unfold Cla.wt at hwj; omega
      have HC : Hid _ := to_clause ks[j].h ks[j].b ks[j].f wr k1 s1 n1 a1 l1 m1 k2 s2 n2 a2 l2 m2 i1 i2 hwj1 hwj2
      have HSF : Hid (ks[j].f.size ≤ maxLen) := hf
      have HTK : Hid (ks.take (j + 1) = ks.take j ++ [ks[j]]) := List.take_succ_eq_append_getElem hlt
      have hg : w.heap.size < wr.heap.size := (Array.getElem?_eq_some_iff.1 hblk).1
      have hkeep : ∀ w1 : World, Below wr.heap.size wr w1 → w1.heap[w.heap.size]? = some (.cells cur 57 (0, 0)) := fun w1 hb => (hb.block _ hg).trans hblk
      have HK : Hid _ := hkeep
      clear hin i1 i2 h hf hkeep hblk hwj hwj1 hwj2
      generalize ks[j] = kj at *
      obtain ⟨kh, kb, kf⟩ := kj
      simp only at h8 HC HSF
      go_wp2_with (go_at_call 60; refine (Calls.mono HC.out ?_); rintro e w1 ⟨k, s, n, ao, l, c, k', s', n', ao', l', c', F1, G1, rfl, o1, o2, f1, f2, nd1, nd2, ap, hb⟩; have hg1 := HK.out w1 hb; have x0 := blk_cell (i := j * 9) hg1 (by omega); have x1 := blk_cell (i := j * 9 + 1) hg1 (by omega); have x2 := blk_cell (i := j * 9 + 2) hg1 (by omega); have x3 := blk_cell (i := j * 9 + 3) hg1 (by omega); have x4 := blk_cell (i := j * 9 + 4) hg1 (by omega); have x5 := blk_cell (i := j * 9 + 5) hg1 (by omega); have x6 := blk_cell (i := j * 9 + 6) hg1 (by omega); have x7 := blk_cell (i := j * 9 + 7) hg1 (by omega); have x8 := blk_cell (i := j * 9 + 8) hg1 (by omega); have z0 := blk_frozen hg1 (j * 9); have z1 := blk_frozen hg1 (j * 9 + 1); have z2 := blk_frozen hg1 (j * 9 + 2); have z3 := blk_frozen hg1 (j * 9 + 3); have z4 := blk_frozen hg1 (j * 9 + 4); have z5 := blk_frozen hg1 (j * 9 + 5); have z6 := blk_frozen hg1 (j * 9 + 6); have z7 := blk_frozen hg1 (j * 9 + 7); have z8 := blk_frozen hg1 (j * 9 + 8); have HO1 : Hid _ := o1; have HO2 : Hid _ := o2; have HFR : Hid ((∀ x ∈ F1 ++ G1, wr.heap.size ≤ x) ∧ (F1 ++ G1).Nodup) := ⟨fun x hx => (List.mem_append.1 hx).elim (f1 x) (f2 x), List.nodup_append.2 ⟨nd1, nd2, fun a ha b hb e => ap b hb (e ▸ ha)⟩⟩; have HG : Hid _ := hg1; have HBB : Hid _ := hb; clear o1 o2 f1 f2 nd1 nd2 ap hg1 hb)
      go_roundw
      case rel =>
        have hsz := HB.out.size
        have hb1 := HBB.out
        have hg1 := HG.out
        obtain ⟨o1, o2, o3⟩ := HO.out
        have hlt1 := OwnCs.lt _ _ _ o1
        have hne : ∀ f, w.heap.size < f → f ≠ w.heap.size := fun f hf => by omega
        refine ⟨j + 1, _, F ++ (F1 ++ G1), by omega, by go_num, ?_, blk_set (blk_set (blk_set (blk_set (blk_set (blk_set (blk_set (blk_set (blk_set hg1 _) _) _) _) _) _) _) _) _, by simp; exact hcs, ?_, ?_, ?_⟩
        · exact below_set (below_set (below_set (below_set (below_set (below_set (below_set (below_set (below_set (HB.out.trans (hb1.mono hsz)) (Nat.le_refl _) _) (Nat.le_refl _) _) (Nat.le_refl _) _) (Nat.le_refl _) _) (Nat.le_refl _) _) (Nat.le_refl _) _) (Nat.le_refl _) _) (Nat.le_refl _) _) (Nat.le_refl _) _
        · rw [HTK.out, set9_take (by omega)]
          have hoc : OwnC 46 w1 ⟨kh, kb, kf⟩ [.int .i64 k, .string s, .int .i64 n, .slice ao l c, .int .i64 k', .string s', .int .i64 n', .slice ao' l' c', .string kf] (F1 ++ G1) := ⟨k, s, n, ao, l, c, k', s', n', ao', l', c', F1, G1, rfl, rfl, HSF.out, HO1.out, HO2.out⟩
          refine OwnCs.snoc (hoc.keep fun f hf => ?_) _ _ _ (OwnCs.keep _ _ _ o1 fun f hf => ?_)
          · have h1 := HFR.out.1 f hf
            rw [blk_other _ (hne f (by omega)), blk_other _ (hne f (by omega)), blk_other _ (hne f (by omega)), blk_other _ (hne f (by omega)), blk_other _ (hne f (by omega)), blk_other _ (hne f (by omega)), blk_other _ (hne f (by omega)), blk_other _ (hne f (by omega)), blk_other _ (hne f (by omega))]
          · have h1 := o2 f hf
            rw [blk_other _ (hne f h1), blk_other _ (hne f h1), blk_other _ (hne f h1), blk_other _ (hne f h1), blk_other _ (hne f h1), blk_other _ (hne f h1), blk_other _ (hne f h1), blk_other _ (hne f h1), blk_other _ (hne f h1)]
            exact hb1.block f (hlt1 f hf)
        · intro f hf
          rcases List.mem_append.1 hf with hf | hf
          · exact o2 f hf
          · have := HFR.out.1 f hf; omega
        · refine List.nodup_append.2 ⟨o3, HFR.out.2, fun a ha b hb => ?_⟩
          have h1 := hlt1 a ha
          have h2 := HFR.out.1 b hb
          omega
      case measure => simp [intOf]; omega
    · obtain rfl : j = ks.length := by omega
      go_wp2
      go_ret
      obtain ⟨o1, o2, o3⟩ := HO.out
      rw [List.take_of_length_le (Nat.le_refl _)] at o1
      refine ⟨_, w.heap.size :: F, rfl, Or.inr ⟨w.heap.size, ks.length, cur.toList.take (ks.length * 9), F, rfl, ⟨by simp [hcs], Or.inr ⟨w.heap.size, ks.length, cur, rfl, Nat.zero_le _, hblk, Nat.le_refl _, by unfold maxLen; omega, hcs, rfl⟩⟩, rfl, o1⟩, ?_, ?_, HB.out⟩
      · intro f hf
        rcases List.mem_cons.1 hf with rfl | hf
        · exact Nat.le_refl _
        · have := o2 f hf; omega
      · refine List.nodup_cons.2 ⟨fun hf => ?_, o3⟩
        have := o2 _ hf
        omega
end Go.Proofs.YtmhmlkdoaojimapDoor

/- The laws' comparison of terms: of the same term it says so. -/
namespace Go.Proofs.YtmhmlkdoaojimapDoor
open Go.RowKit

def EqOk (t : Tm) : Prop := ∀ (w : World) (va vb : Value), TmIn w t va → TmIn w t vb →
  Calls Tryd.prog 24 #[va, vb] w fun e w' => e = .returned (.bool true) ∧ Below w.heap.size w w'

theorem eq_terms (ks : List Tm) (hks : ∀ t ∈ ks, EqOk t) (w : World) (ao bo : Option Addr) (ca cb : Nat) (hlen : ks.length ≤ maxLen) (ha : ks ≠ [] → ∃ b off, ao = some ⟨b, off, none⟩ ∧ TmsIn w ks b off) (hb : ks ≠ [] → ∃ b off, bo = some ⟨b, off, none⟩ ∧ TmsIn w ks b off) :
    Calls Tryd.prog 56 #[.slice ao ks.length ca, .slice bo ks.length cb] w fun e w' => e = .returned (.bool true) ∧ Below w.heap.size w w' := by
  unfold maxLen at hlen
  go_enter Tryd.func56, Tryd.ntmps56
  go_wp2
  go_loopw [5] (fun vi wr => Hid (Below w.heap.size w wr) ∧ ∃ j : Nat, j ≤ ks.length ∧ vi = .int .i64 (j : Int)) (fun i _ => ks.length - (intOf i).toNat)
  case atStart => exact ⟨Below.refl _ _, 0, by omega, rfl⟩
  case round =>
    obtain ⟨HB, j, hj, rfl⟩ := hrel
    by_cases hlt : j < ks.length
    · have hne : ks ≠ [] := by intro e; subst e; simp at hlt
      obtain ⟨b, off, rfl, hin⟩ := ha hne
      obtain ⟨b', off', rfl, hin'⟩ := hb hne
      obtain ⟨c0, c1, c2, c3, h0, h1, h2, h3, ht⟩ := (TmsIn.keep HB.out ks b off hin).at j hlt
      obtain ⟨d0, d1, d2, d3, g0, g1, g2, g3, gt⟩ := (TmsIn.keep HB.out ks b' off' hin').at j hlt
      have HC : Hid (∀ u, Calls Tryd.prog 24 #[.agg #[c0, c1, c2, c3], .agg #[d0, d1, d2, d3]] (later wr u) fun e w' => e = .returned (.bool true) ∧ Below (later wr u).heap.size (later wr u) w') := fun u =>
        hks ks[j] (List.getElem_mem hlt) (later wr u) _ _ (TmIn.keep (later_below wr u) _ _ ht) (TmIn.keep (later_below wr u) _ _ gt)
      have k0 : ∀ u, (later wr u).cell? ⟨b, off + j * 4, none⟩ = some c0 := fun u => cell_keep h0 (later_below wr u)
      have k1 : ∀ u, (later wr u).cell? ⟨b, off + j * 4 + 1, none⟩ = some c1 := fun u => cell_keep h1 (later_below wr u)
      have k2 : ∀ u, (later wr u).cell? ⟨b, off + j * 4 + 2, none⟩ = some c2 := fun u => cell_keep h2 (later_below wr u)
      have k3 : ∀ u, (later wr u).cell? ⟨b, off + j * 4 + 3, none⟩ = some c3 := fun u => cell_keep h3 (later_below wr u)
      have l0 : ∀ u, (later wr u).cell? ⟨b', off' + j * 4, none⟩ = some d0 := fun u => cell_keep g0 (later_below wr u)
      have l1 : ∀ u, (later wr u).cell? ⟨b', off' + j * 4 + 1, none⟩ = some d1 := fun u => cell_keep g1 (later_below wr u)
      have l2 : ∀ u, (later wr u).cell? ⟨b', off' + j * 4 + 2, none⟩ = some d2 := fun u => cell_keep g2 (later_below wr u)
      have l3 : ∀ u, (later wr u).cell? ⟨b', off' + j * 4 + 3, none⟩ = some d3 := fun u => cell_keep g3 (later_below wr u)
      clear hin hin' ht gt ha hb hks h0 h1 h2 h3 g0 g1 g2 g3
      go_wp2
      refine wp_region_later (by kernel_rfl) (by kernel_rfl) ?_
      repeat (go_big_quiet_step ((go_at_call 24; exact Calls.later_of_below (HC.out _))))
      refine wpQuiet_nil ?_
      rintro _ ⟨u, rfl⟩
      have hb2 := later_below wr u
      clear k0 k1 k2 k3 l0 l1 l2 l3
      go_wp2
      go_roundw
      case rel => exact ⟨HB.out.trans (hb2.mono HB.out.size), j + 1, by omega, by go_num⟩
      case measure => simp [intOf]; omega
    · go_wp2
      go_ret
      exact ⟨rfl, HB.out⟩

theorem eq_term (t : Tm) : EqOk t := by
  refine tm_ind (p := EqOk) ?_ t
  clear t
  intro k s n ks hks w va vb hin hin'
  unfold TmIn at hin hin'
  obtain ⟨ao, ca, rfl, hk, hn, hs, hlen, hcap, hrow⟩ := hin
  obtain ⟨bo, cb, rfl, _, _, _, _, _, hrow'⟩ := hin'
  have hb1 : Below w.heap.size w ((w.alloc (.cells #[.int .i64 k, .string s, .int .i64 n, .slice ao ks.length ca] 46)).alloc (.cells #[.int .i64 k, .string s, .int .i64 n, .slice bo ks.length cb] 46)) :=
    ((Below.refl _ _).alloc (Nat.le_refl _) _).alloc (by simp) _
  have HC : Hid _ := eq_terms ks hks _ ao bo ca cb (by omega) (fun h0 => by obtain ⟨b, off, e, hr⟩ := hrow h0; exact ⟨b, off, e, TmsIn.keep hb1 ks b off hr⟩) (fun h0 => by obtain ⟨b, off, e, hr⟩ := hrow' h0; exact ⟨b, off, e, TmsIn.keep hb1 ks b off hr⟩)
  replace hb1 : Hid _ := hb1
  clear hks hrow hrow'
  unfold maxLen at *
  go_enter Tryd.func24, Tryd.ntmps24
  go_wp2_with (go_at_call 56; refine (Calls.mono HC.out ?_); rintro e w1 ⟨rfl, hb⟩; have HB1 : Hid (Below w.heap.size w w1) := hb1.out.trans (hb.mono hb1.out.size); clear hb)
  go_ret
  exact ⟨rfl, HB1.out⟩
end Go.Proofs.YtmhmlkdoaojimapDoor
