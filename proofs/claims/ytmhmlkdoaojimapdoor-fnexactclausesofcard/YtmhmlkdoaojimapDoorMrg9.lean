/- Four texts in one. -/
import Derived.Test.YtmhmlkdoaojimapDoorMrg8
import Derived.Test.YtmhmlkdoaojimapDoorMrg2
import Derived.Deep.DeepCutAuto
import Derived.Test.YtmhmlkdoaojimapDoorMrg3
import Derived.Laws.AppendOwn
import Derived.Test.YtmhmlkdoaojimapDoorMrg6
import Derived.Maps.AppendAt
/- spec.l34Clause. -/
namespace Go.Proofs.YtmhmlkdoaojimapDoor
open Go.RowKit

theorem below_hpB {w w' : World} (hb : Below w.heap.size w w') {g : Nat} {x : Obj} (h : w.heap[g]? = some x) : w'.heap[g]? = some x := (hb.block g (Array.getElem?_eq_some_iff.1 h).1).trans h
theorem blk9_set4aB {w : World} {g : Nat} {c0 c1 c2 c3 c4 c5 c6 c7 c8 d0 d1 d2 d3 : Value} {T : TypeId} (h : w.heap[g]? = some (.cells #[c0, c1, c2, c3, c4, c5, c6, c7, c8] T (0, 0))) :
    ((((w.setCell ⟨g, 0, none⟩ d0).setCell ⟨g, 1, none⟩ d1).setCell ⟨g, 2, none⟩ d2).setCell ⟨g, 3, none⟩ d3).heap[g]? = some (.cells #[d0, d1, d2, d3, c4, c5, c6, c7, c8] T (0, 0)) := by
  have := blk_set (i := 3) (blk_set (i := 2) (blk_set (i := 1) (blk_set (i := 0) h d0) d1) d2) d3
  simpa using this
theorem set4b_otherB {w : World} {g f : Nat} {d0 d1 d2 d3 : Value} (h : f ≠ g) :
    ((((w.setCell ⟨g, 4, none⟩ d0).setCell ⟨g, 5, none⟩ d1).setCell ⟨g, 6, none⟩ d2).setCell ⟨g, 7, none⟩ d3).heap[f]? = w.heap[f]? := by
  rw [blk_other _ h, blk_other _ h, blk_other _ h, blk_other _ h]

set_option maxHeartbeats 4000000 in
set_option maxRecDepth 20000 in
theorem l34_clauseB (H B : Tm) (f : ByteArray) (w : World) (k1 s1 n1 a1 l1 c1 k2 s2 n2 a2 l2 c2) (h1 : TmIn w H (.agg #[.int .i64 k1, .string s1, .int .i64 n1, .slice a1 l1 c1])) (h2 : TmIn w B (.agg #[.int .i64 k2, .string s2, .int .i64 n2, .slice a2 l2 c2])) (o1 : H.wt ≤ 1100000) (o2 : B.wt ≤ 1100000) :
    Calls Tryd.prog 63 #[.agg #[.int .i64 k1, .string s1, .int .i64 n1, .slice a1 l1 c1, .int .i64 k2, .string s2, .int .i64 n2, .slice a2 l2 c2, .string f]] w fun e w' => ∃ k s n ao l c k' s' n' ao' l' c' F G, e = .returned (.agg #[.int .i64 k, .string s, .int .i64 n, .slice ao l c, .int .i64 k', .string s', .int .i64 n', .slice ao' l' c', .string f]) ∧ Own 46 w' H (.agg #[.int .i64 k, .string s, .int .i64 n, .slice ao l c]) F ∧ Own 46 w' B (.agg #[.int .i64 k', .string s', .int .i64 n', .slice ao' l' c']) G ∧
      (∀ x ∈ F, w.heap.size ≤ x) ∧ (∀ x ∈ G, w.heap.size ≤ x) ∧ F.Nodup ∧ G.Nodup ∧ (∀ x ∈ G, x ∉ F) ∧ Below w.heap.size w w' := by
  obtain ⟨W, hW⟩ : ∃ W, W = (w.alloc (.cells #[.int .i64 k1, .string s1, .int .i64 n1, .slice a1 l1 c1, .int .i64 k2, .string s2, .int .i64 n2, .slice a2 l2 c2, .string f] 57)).alloc (.cells #[.int .i64 0, .string ⟨#[]⟩, .int .i64 0, .slice none 0 0, .int .i64 0, .string ⟨#[]⟩, .int .i64 0, .slice none 0 0, .string ⟨#[]⟩] 57) := ⟨_, rfl⟩
  have bW : Below w.heap.size w W := by rw [hW]; exact ((Below.refl _ _).alloc (Nat.le_refl _) _).alloc (by simp) _
  have lW : W.heap.size = w.heap.size + 2 := by rw [hW]; simp
  have k1' : W.heap[w.heap.size]? = some (.cells #[.int .i64 k1, .string s1, .int .i64 n1, .slice a1 l1 c1, .int .i64 k2, .string s2, .int .i64 n2, .slice a2 l2 c2, .string f] 57 (0, 0)) := by rw [hW]; exact (alloc_old _ _ (by simp)).trans (alloc_at _ _ rfl)
  have k2' : W.heap[w.heap.size + 1]? = some (.cells #[.int .i64 0, .string ⟨#[]⟩, .int .i64 0, .slice none 0 0, .int .i64 0, .string ⟨#[]⟩, .int .i64 0, .slice none 0 0, .string ⟨#[]⟩] 57 (0, 0)) := by rw [hW]; exact alloc_at _ _ (by simp)
  have HC1 : Hid _ := l34_termB H W _ (TmIn.keep bW _ _ h1) o1
  have HC2 : Hid (∀ w1, Below w.heap.size w w1 → Calls Tryd.prog 48 #[.agg #[.int .i64 k2, .string s2, .int .i64 n2, .slice a2 l2 c2]] w1 fun e w' => ∃ v' F, e = .returned v' ∧ Own 46 w' B v' F ∧ (∀ x ∈ F, w1.heap.size ≤ x) ∧ F.Nodup ∧ Below w1.heap.size w1 w') := fun w1 hb => l34_termB B w1 _ (TmIn.keep hb _ _ h2) o2
  have HBW : Hid (Below w.heap.size w W) := bW
  have HL : Hid (W.heap.size = w.heap.size + 2) := lW
  have HK1 : Hid (W.heap[w.heap.size]? = _) := k1'
  have HK2 : Hid (W.heap[w.heap.size + 1]? = _) := k2'
  clear h1 h2 o1 o2 bW lW k1' k2'
  go_enter Tryd.func63, Tryd.ntmps63
  go_upto_region 1 with fail
  rw [← hW]
  clear hW
  obtain ⟨p, hp⟩ : ∃ p, p = w.heap.size := ⟨_, rfl⟩
  rw [← hp] at HL HK1 HK2 ⊢
  have HPP : Hid (p = w.heap.size) := hp
  clear hp
  obtain ⟨⟨z0, z1, z2, z3, z4, z5, z6, z7, z8⟩, g0, g1, g2, g3, g4, g5, g6, g7, g8⟩ := blk9 HK1.out
  go_upto_region 2 with (go_at_call 48; refine (Calls.mono HC1.out ?_); rintro e w1 ⟨v', F, rfl, o, hf, nd, hb⟩; obtain ⟨k3, s3, n3, a3, l3, c3, rfl⟩ := own_shape o; have HO1 : Hid _ := o; have HF1 : Hid ((∀ x ∈ F, p + 2 ≤ x) ∧ F.Nodup) := ⟨fun x hx => by have := hf x hx; have := HL.out; omega, nd⟩; have HB1 : Hid (Below W.heap.size W w1) := hb; have hk := below_hpB hb HK1.out; have HKP : Hid _ := hk; clear o hf nd hb; clear z0 z1 z2 z3 z4 z5 z6 z7 z8 g0 g1 g2 g3 g4 g5 g6 g7 g8; obtain ⟨⟨z0, z1, z2, z3, z4, z5, z6, z7, z8⟩, g0, g1, g2, g3, g4, g5, g6, g7, g8⟩ := blk9 hk; clear hk)
  clear z0 z1 z2 z3 z4 z5 z6 z7 z8 g0 g1 g2 g3 g4 g5 g6 g7 g8
  obtain ⟨V1, hV1⟩ : ∃ V1, V1 = ((((w1.setCell ⟨p, 0, none⟩ (.int .i64 k3)).setCell ⟨p, 1, none⟩ (.string s3)).setCell ⟨p, 2, none⟩ (.int .i64 n3)).setCell ⟨p, 3, none⟩ (.slice a3 l3 c3)) := ⟨_, rfl⟩
  rw [← hV1]
  have b1 : Below p w V1 := by rw [hV1]; exact blk4_below (by rw [HPP.out]; exact HBW.out.trans (HB1.out.mono HBW.out.size)) (Nat.le_refl _)
  have hk1 : V1.heap[p]? = some (.cells #[.int .i64 k3, .string s3, .int .i64 n3, .slice a3 l3 c3, .int .i64 k2, .string s2, .int .i64 n2, .slice a2 l2 c2, .string f] 57 (0, 0)) := by rw [hV1]; exact blk9_set4aB HKP.out
  have hk2 : V1.heap[p + 1]? = some (.cells #[.int .i64 0, .string ⟨#[]⟩, .int .i64 0, .slice none 0 0, .int .i64 0, .string ⟨#[]⟩, .int .i64 0, .slice none 0 0, .string ⟨#[]⟩] 57 (0, 0)) := by rw [hV1]; exact (blk4_other (by omega)).trans (below_hpB HB1.out HK2.out)
  have hs1 : V1.heap.size = w1.heap.size := by rw [hV1]; simp [World.setCell]
  have HOV : Hid (Own 46 V1 H (.agg #[.int .i64 k3, .string s3, .int .i64 n3, .slice a3 l3 c3]) F) := by rw [hV1]; exact Own.keep _ _ _ HO1.out fun x hx => blk4_other (by have := HF1.out.1 x hx; omega)
  have HS1 : Hid (∀ x ∈ F, x < V1.heap.size) := fun x hx => by rw [hs1]; exact Own.lt _ _ _ HO1.out x hx
  have HB1V : Hid (Below w.heap.size w V1) := by show Below _ _ _; rw [← HPP.out]; exact b1
  have HP1 : Hid (p + 2 ≤ V1.heap.size) := by have := HB1.out.size; have := HL.out; show _ ≤ _; omega
  have HK3 : Hid _ := hk1
  have HK4 : Hid _ := hk2
  have HC3 : Hid _ := HC2.out V1 HB1V.out
  clear hV1 b1 hs1 hk2 HKP HO1 HB1
  obtain ⟨⟨z0, z1, z2, z3, z4, z5, z6, z7, z8⟩, g0, g1, g2, g3, g4, g5, g6, g7, g8⟩ := blk9 hk1
  clear hk1
  go_upto_region 3 with (go_at_call 48; refine (Calls.mono HC3.out ?_); rintro e w2 ⟨v', G, rfl, o, hf, nd, hb⟩; obtain ⟨k4, s4, n4, a4, l4, c4, rfl⟩ := own_shape o; have HO2 : Hid _ := o; have HG : Hid ((∀ x ∈ G, V1.heap.size ≤ x) ∧ G.Nodup) := ⟨hf, nd⟩; have HB2 : Hid (Below V1.heap.size V1 w2) := hb; have hk := below_hpB hb HK3.out; have HKP : Hid _ := hk; clear o hf nd hb; clear z0 z1 z2 z3 z4 z5 z6 z7 z8 g0 g1 g2 g3 g4 g5 g6 g7 g8; obtain ⟨⟨z0, z1, z2, z3, z4, z5, z6, z7, z8⟩, g0, g1, g2, g3, g4, g5, g6, g7, g8⟩ := blk9 hk; clear hk)
  clear z0 z1 z2 z3 z4 z5 z6 z7 z8 g0 g1 g2 g3 g4 g5 g6 g7 g8
  obtain ⟨V2, hV2⟩ : ∃ V2, V2 = ((((w2.setCell ⟨p, 4, none⟩ (.int .i64 k4)).setCell ⟨p, 5, none⟩ (.string s4)).setCell ⟨p, 6, none⟩ (.int .i64 n4)).setCell ⟨p, 7, none⟩ (.slice a4 l4 c4)) := ⟨_, rfl⟩
  rw [← hV2]
  have b2 : Below p w V2 := by rw [hV2]; exact below_set (below_set (below_set (below_set (by have := HB1V.out; rw [← HPP.out] at this; exact this.trans (HB2.out.mono (by have := HP1.out; omega))) (Nat.le_refl _) _) (Nat.le_refl _) _) (Nat.le_refl _) _) (Nat.le_refl _) _
  have hk1 : V2.heap[p]? = some (.cells #[.int .i64 k3, .string s3, .int .i64 n3, .slice a3 l3 c3, .int .i64 k4, .string s4, .int .i64 n4, .slice a4 l4 c4, .string f] 57 (0, 0)) := by rw [hV2]; exact blk9_set4b HKP.out
  have hk2 : V2.heap[p + 1]? = some (.cells #[.int .i64 0, .string ⟨#[]⟩, .int .i64 0, .slice none 0 0, .int .i64 0, .string ⟨#[]⟩, .int .i64 0, .slice none 0 0, .string ⟨#[]⟩] 57 (0, 0)) := by rw [hV2]; exact (set4b_otherB (by omega)).trans (below_hpB HB2.out HK4.out)
  have HO3 : Hid (Own 46 V2 H (.agg #[.int .i64 k3, .string s3, .int .i64 n3, .slice a3 l3 c3]) F) := by rw [hV2]; exact Own.keep _ _ _ HOV.out fun x hx => (set4b_otherB (by have := HF1.out.1 x hx; omega)).trans (HB2.out.block x (HS1.out x hx))
  have HO4 : Hid (Own 46 V2 B (.agg #[.int .i64 k4, .string s4, .int .i64 n4, .slice a4 l4 c4]) G) := by rw [hV2]; exact Own.keep _ _ _ HO2.out fun x hx => set4b_otherB (by have := HG.out.1 x hx; have := HP1.out; omega)
  have HFIN : Hid (∀ d0 d1 d2 d3 d4 d5 d6 d7 d8, Own 46 (set9 V2 (p + 1) d0 d1 d2 d3 d4 d5 d6 d7 d8) H (.agg #[.int .i64 k3, .string s3, .int .i64 n3, .slice a3 l3 c3]) F ∧ Own 46 (set9 V2 (p + 1) d0 d1 d2 d3 d4 d5 d6 d7 d8) B (.agg #[.int .i64 k4, .string s4, .int .i64 n4, .slice a4 l4 c4]) G ∧
      (∀ x ∈ F, p ≤ x) ∧ (∀ x ∈ G, p ≤ x) ∧ F.Nodup ∧ G.Nodup ∧ (∀ x ∈ G, x ∉ F) ∧ Below p w (set9 V2 (p + 1) d0 d1 d2 d3 d4 d5 d6 d7 d8)) := fun d0 d1 d2 d3 d4 d5 d6 d7 d8 =>
    ⟨Own.keep _ _ _ HO3.out fun x hx => blk9_other (by have := HF1.out.1 x hx; omega), Own.keep _ _ _ HO4.out fun x hx => blk9_other (by have := HG.out.1 x hx; have := HP1.out; omega), fun x hx => by have := HF1.out.1 x hx; omega, fun x hx => by have := HG.out.1 x hx; have := HP1.out; omega, HF1.out.2, HG.out.2, fun x hx h => by have := HG.out.1 x hx; have := HS1.out x h; omega, blk9_below b2 (by omega)⟩
  have HZ : Hid _ := hk2
  clear hV2 b2 HKP HO2 HOV
  obtain ⟨⟨z0, z1, z2, z3, z4, z5, z6, z7, z8⟩, _⟩ := blk9 hk1
  obtain ⟨⟨cc0, cc1, cc2, cc3, cc4, cc5, cc6, cc7, cc8⟩, g0, g1, g2, g3, g4, g5, g6, g7, g8⟩ := blk9 hk2
  clear hk1 hk2
  go_wp2
  refine bodyPost_ret_by (results_cell_row rfl _ _ (p + 1) 57 _ (0, 0) _ rfl (blk9_set HZ.out) Tryd.underlying57 rfl (by kernel_rfl)) rfl ?_
  rw [← HPP.out]
  exact ⟨_, _, _, _, _, _, _, _, _, _, _, _, F, G, rfl, HFIN.out _ _ _ _ _ _ _ _ _⟩
end Go.Proofs.YtmhmlkdoaojimapDoor

/- A row of clauses that grows by appends. Of no program. -/
namespace Go.Proofs.YtmhmlkdoaojimapDoor
open Go.RowKit

/-- what was put together so far: a row of its own, and the terms in it in blocks of their own -/
def OutC (ec e : TypeId) (w : World) (B : Nat) (ks : List Cla) (v : Value) (F : List Nat) : Prop :=
  ∃ cs g, w.ownsRow B ec 9 v ks.length cs ∧ v.ownBlock = some g ∧ OwnCs e w ks cs F ∧ (∀ f ∈ F, B ≤ f) ∧ B ≤ g ∧ (g :: F).Nodup

theorem OutC.own {ec e : TypeId} {w : World} {B : Nat} {ks : List Cla} {v : Value} {F : List Nat} (h : OutC ec e w B ks v F) : ∃ F', OwnClS ec e w ks v F' ∧ (∀ f ∈ F', B ≤ f) ∧ F'.Nodup := by
  obtain ⟨cs, g, h1, h2, h3, h4, h5, h6⟩ := h
  refine ⟨g :: F, ?_, ?_, h6⟩
  · rcases h1.2 with ⟨rfl, _⟩ | ⟨g', cap, cur, rfl, hb, hh, hr⟩
    · cases h2
    · obtain rfl : g' = g := by simpa [Value.ownBlock] using h2
      exact Or.inr ⟨g', cap, cs, F, rfl, ⟨h1.1, Or.inr ⟨g', cap, cur, rfl, Nat.zero_le _, hh, hr⟩⟩, rfl, h3⟩
  · intro f hf
    rcases List.mem_cons.1 hf with rfl | hf
    · exact h5
    · exact h4 f hf

theorem OutC.lt {ec e : TypeId} {w : World} {B : Nat} {ks : List Cla} {v : Value} {F : List Nat} (h : OutC ec e w B ks v F) : (∀ f ∈ F, f < w.heap.size) ∧ ∀ g, v.ownBlock = some g → g < w.heap.size := by
  obtain ⟨cs, g, h1, h2, h3, h4, h5, h6⟩ := h
  exact ⟨OwnCs.lt _ _ _ h3, fun g hg => (h1.lt g hg).2⟩

theorem OutC.shape {ec e : TypeId} {w : World} {B : Nat} {ks : List Cla} {v : Value} {F : List Nat} (h : OutC ec e w B ks v F) : ∃ g cap, v = .slice (some ⟨g, 0, none⟩) ks.length cap ∧ B ≤ g ∧ g < w.heap.size ∧ ks.length ≤ cap ∧ cap ≤ maxLen := by
  obtain ⟨cs, g, h1, h2, h3, h4, h5, h6⟩ := h
  rcases h1.2 with ⟨rfl, _⟩ | ⟨g', cap, cur, rfl, hb, hh, hr, hm, _⟩
  · cases h2
  · exact ⟨g', cap, rfl, hb, (Array.getElem?_eq_some_iff.1 hh).1, hr, hm⟩

theorem OutC.keep {ec e : TypeId} {w w' : World} {B : Nat} {ks : List Cla} {v : Value} {F : List Nat} (h : OutC ec e w B ks v F) (hb : ∀ k, B ≤ k → k < w.heap.size → w'.heap[k]? = w.heap[k]?) : OutC ec e w' B ks v F := by
  have hlt := h.lt
  obtain ⟨cs, g, h1, h2, h3, h4, h5, h6⟩ := h
  refine ⟨cs, g, ?_, h2, OwnCs.keep _ _ _ h3 fun f hf => hb f (h4 f hf) (hlt.1 f hf), h4, h5, h6⟩
  rcases h1.2 with ⟨rfl, _⟩ | ⟨g', cap, cur, rfl, hb', hh, hr⟩
  · cases h2
  · exact ⟨h1.1, Or.inr ⟨g', cap, cur, rfl, hb', (hb g' hb' (Array.getElem?_eq_some_iff.1 hh).1).trans hh, hr⟩⟩

theorem outC_new {ec e : TypeId} {w : World} {B : Nat} (hB : B ≤ w.heap.size) (cap : Nat) (hc : cap ≤ maxLen) (M : Array Value) (hM : M.size = cap * 9) : OutC ec e (w.alloc (.cells M ec)) B [] (.slice (some ⟨w.heap.size, 0, none⟩) 0 cap) [] := by
  refine ⟨[], w.heap.size, ⟨by simp, Or.inr ⟨w.heap.size, cap, M, rfl, hB, heap_alloc_new w _, Nat.zero_le _, hc, hM, by simp⟩⟩, rfl, ⟨rfl, rfl⟩, by simp, hB, by simp⟩

/-- one more term behind it -/
theorem OutC.push {ec e : TypeId} {w1 w2 : World} {B : Nat} {ks : List Cla} {v v' : Value} {F F2 : List Nat} {t : Cla} {cc cs : List Value} {g : Nat}
    (h1 : w1.ownsRow B ec 9 v ks.length cs) (hg : v.ownBlock = some g) (hr : OwnCs e w1 ks cs F) (hF : ∀ f ∈ F, B ≤ f) (hBg : B ≤ g) (hnd : (g :: F).Nodup)
    (ht : OwnC e w1 t cc F2) (hF2 : ∀ f ∈ F2, B ≤ f) (hnd2 : F2.Nodup) (hdis : ∀ f ∈ F2, f ∉ g :: F)
    (hown : w2.ownsRow B ec 9 v' (ks.length + 1) (cs ++ cc)) (hgrow : w1.grownBy w2 v.ownBlock) (hat : v'.ownBlock = v.ownBlock ∨ v'.ownBlock = some w1.heap.size) :
    OutC ec e w2 B (ks ++ [t]) v' (F ++ F2) := by
  have hlt := OwnCs.lt _ _ _ hr
  have hlt2 := OwnC.lt ht
  have hglt := (h1.lt g hg).2
  rw [List.nodup_cons] at hnd
  have hk : ∀ f, f < w1.heap.size → f ≠ g → w2.heap[f]? = w1.heap[f]? := fun f hf hne => hgrow.block f hf (by rw [hg]; intro e; exact hne (by simpa using e))
  obtain ⟨g', hg', hgg⟩ : ∃ g', v'.ownBlock = some g' ∧ (g' = g ∨ g' = w1.heap.size) := by
    rcases hat with hat | hat
    · exact ⟨g, hat.trans hg, Or.inl rfl⟩
    · exact ⟨_, hat, Or.inr rfl⟩
  have hne : ∀ f ∈ F, f ≠ g := fun f hf e => hnd.1 (e ▸ hf)
  have hne2 : ∀ f ∈ F2, f ≠ g := fun f hf e => hdis f hf (by simp [e])
  refine ⟨cs ++ cc, g', by simpa using hown, hg', ?_, ?_, ?_, ?_⟩
  · exact OwnCs.snoc (OwnC.keep ht fun f hf => hk f (hlt2 f hf) (hne2 f hf)) _ _ _ (OwnCs.keep _ _ _ hr fun f hf => hk f (hlt f hf) (hne f hf))
  · intro f hf
    rcases List.mem_append.1 hf with hf | hf
    · exact hF f hf
    · exact hF2 f hf
  · rcases hgg with rfl | rfl
    · exact hBg
    · omega
  · refine List.nodup_cons.2 ⟨fun hf => ?_, List.nodup_append.2 ⟨hnd.2, hnd2, fun a ha b hb e => hdis b hb (by rw [← e]; simp [ha])⟩⟩
    rcases List.mem_append.1 hf with hf | hf
    · rcases hgg with rfl | rfl
      · exact hnd.1 hf
      · have := hlt _ hf; omega
    · rcases hgg with rfl | rfl
      · exact hne2 _ hf rfl
      · have := hlt2 _ hf; omega
end Go.Proofs.YtmhmlkdoaojimapDoor

/- spec.l34Clauses. -/
namespace Go.Proofs.YtmhmlkdoaojimapDoor
open Go.RowKit

set_option maxHeartbeats 4000000 in
set_option maxRecDepth 20000 in
theorem l34_clauses (ks : List Cla) (w : World) (sl : Value) (hlen : ks.length + claWts ks ≤ 1100000) (h : ClsIn w ks sl) :
    Calls Tryd.prog 37 #[sl] w fun e w' => ∃ sl F, e = .returned sl ∧ OwnClS 57 46 w' ks sl F ∧ (∀ f ∈ F, w.heap.size ≤ f) ∧ F.Nodup ∧ Below w.heap.size w w' := by
  obtain ⟨ao, cap, rfl, hcap, hmax, h⟩ := h
  clear hcap hmax
  obtain ⟨i0, hi, hz0, hz1, hz2⟩ := info_parts infoC
  go_enter Tryd.func37, Tryd.ntmps37
  go_wp2
  go_loopw [3, 4] (fun vo vi wr => ∃ (j : Nat) (F : List Nat) (v : Value), j ≤ ks.length ∧ vi = .int .i64 (j : Int) ∧ v = vo ∧ Hid (Below w.heap.size w wr) ∧ Hid (OutC 57 46 wr w.heap.size (ks.take j) v F)) (fun _ i _ => ks.length - (intOf i).toNat)
  case atStart =>
    exact ⟨0, [], _, by omega, rfl, rfl, (Below.refl _ _).alloc (Nat.le_refl _) _, outC_new (Nat.le_refl _) 0 (Nat.zero_le _) _ rfl⟩
  case round =>
    obtain ⟨j, F, vo, hj, rfl, rfl, HB, HO⟩ := hrel
    by_cases hlt : j < ks.length
    · obtain ⟨b, off, rfl, hin⟩ := h (by intro e; subst e; simp at hlt)
      obtain ⟨k1, s1, n1, a1, l1, m1, k2, s2, n2, a2, l2, m2, h0, h1, h2, h3, h4, h5, h6, h7, h8, hf, i1, i2⟩ := (hin j hlt).keep HB.out
      have hwj := claWt_le (List.getElem_mem hlt)
      have HC : Hid _ := l34_clauseB ks[j].h ks[j].b ks[j].f wr k1 s1 n1 a1 l1 m1 k2 s2 n2 a2 l2 m2 i1 i2 (by unfold Cla.wt at hwj; omega) (by unfold Cla.wt at hwj; omega)
      have HSF : Hid (ks[j].f.size ≤ maxLen) := hf
      have HTK : Hid (ks.take (j + 1) = ks.take j ++ [ks[j]]) := List.take_succ_eq_append_getElem hlt
      obtain ⟨g, cp, rfl, hBg, hgl, _, _⟩ := OutC.shape HO.out
      have hl : (ks.take j).length = j := by rw [List.length_take]; omega
      rw [hl]
      have HK : Hid (∀ w1, Below wr.heap.size wr w1 → ∃ cs, w1.ownsRow w.heap.size 57 9 (.slice (some ⟨g, 0, none⟩) j cp) j cs ∧ OwnCs 46 w1 (ks.take j) cs F ∧ (∀ f ∈ F, w.heap.size ≤ f) ∧ (g :: F).Nodup ∧ (∀ f ∈ g :: F, f < wr.heap.size)) := fun w1 hb => by
        have hlt' := OutC.lt HO.out
        obtain ⟨cs, g', q1, q2, q3, q4, q5, q6⟩ := OutC.keep HO.out fun k _ hk => hb.block k hk
        obtain rfl : g = g' := by simpa [Value.ownBlock] using q2
        rw [hl] at q1
        refine ⟨cs, q1, q3, q4, q6, fun f hf => ?_⟩
        rcases List.mem_cons.1 hf with rfl | hf
        · exact hlt'.2 _ rfl
        · exact hlt'.1 f hf
      have hszw := HB.out.size
      have HLJ : Hid ((ks.take j).length = j) := hl
      clear hin i1 i2 h hf hl hwj
      generalize ks[j] = kj at *
      obtain ⟨kh, kb, kf⟩ := kj
      simp only at h8 HC HSF
      go_wp2_with (first
        | (go_at_call 63; refine (Calls.mono HC.out ?_); rintro e w1 ⟨k, s, n, ao, l, c, k', s', n', ao', l', c', F1, F2, rfl, o1, o2, f1, f2, nd1, nd2, ap, hb⟩; have HOWN : Hid (OwnC 46 w1 ⟨kh, kb, kf⟩ [.int .i64 k, .string s, .int .i64 n, .slice ao l c, .int .i64 k', .string s', .int .i64 n', .slice ao' l' c', .string kf] (F1 ++ F2)) := ⟨k, s, n, ao, l, c, k', s', n', ao', l', c', F1, F2, rfl, rfl, HSF.out, o1, o2⟩; have HFR : Hid (∀ f ∈ F1 ++ F2, wr.heap.size ≤ f) := (fun x hx => (List.mem_append.1 hx).elim (f1 x) (f2 x)); have HND : Hid ((F1 ++ F2).Nodup) := List.nodup_append.2 ⟨nd1, nd2, fun a ha b hb e => ap b hb (e ▸ ha)⟩; have HBB : Hid (Below wr.heap.size wr w1) := hb; have hsz1 := hb.size; obtain ⟨cs, q1, q3, q4, q6, q7⟩ := HK.out w1 hb; have Q1 : Hid (w1.ownsRow w.heap.size 57 9 (.slice (some ⟨g, 0, none⟩) j cp) j cs) := q1; have Q3 : Hid (OwnCs 46 w1 (ks.take j) cs F) := q3; have Q4 : Hid (∀ f ∈ F, w.heap.size ≤ f) := q4; have Q6 : Hid ((g :: F).Nodup) := q6; have Q7 : Hid (∀ f ∈ g :: F, f < wr.heap.size) := q7; clear q1 q3 q4 q6 q7 o1 o2 f1 f2 nd1 nd2 ap hb)
        | (at_builtin; go_loud (refine wpList_append_own_at _ rfl _ _ 28 rfl w.heap.size 57 i0 (.agg #[.int .i64 0, .string ⟨#[]⟩, .int .i64 0, .slice none 0 0, .int .i64 0, .string ⟨#[]⟩, .int .i64 0, .slice none 0 0, .string ⟨#[]⟩]) 9 128 Tryd.underlying28 hi hz0 hz1 hz2 rfl (by decide) _ _ _ rfl (Q1.out.alloc _) ⟨w1.heap.size, 0, none⟩ 1 1 [.int .i64 k, .string s, .int .i64 n, .slice ao l c, .int .i64 k', .string s', .int .i64 n', .slice ao' l' c', .string kf] rfl rfl ?c1 ?c2 ?c3 ?c4 ?c5 ?_)))
      case c1 =>
        intro j z hj
        match j, hj with
        | 0, hj => simp at hj; subst hj; simp [Addr.add]
        | 1, hj => simp at hj; subst hj; simp [Addr.add]
        | 2, hj => simp at hj; subst hj; simp [Addr.add]
        | 3, hj => simp at hj; subst hj; simp [Addr.add]
        | 4, hj => simp at hj; subst hj; simp [Addr.add]
        | 5, hj => simp at hj; subst hj; simp [Addr.add]
        | 6, hj => simp at hj; subst hj; simp [Addr.add]
        | 7, hj => simp at hj; subst hj; simp [Addr.add]
        | 8, hj => simp at hj; subst hj; simp [Addr.add]
      case c2 => intro z hz; simp at hz; rcases hz with rfl | rfl | rfl | rfl | rfl | rfl | rfl | rfl | rfl <;> rfl
      case c3 => unfold maxLen; omega
      case c4 => omega
      case c5 => simp; omega
      · intro v' w2 hown' hgrow _ hat
        obtain ⟨W, hW⟩ : ∃ W, W = w1.alloc (.cells #[.int .i64 k, .string s, .int .i64 n, .slice ao l c, .int .i64 k', .string s', .int .i64 n', .slice ao' l' c', .string kf] 57) := ⟨_, rfl⟩
        rw [← hW] at hgrow
        rw [show w1.heap.size + 1 = W.heap.size by rw [hW]; simp] at hat
        have bW : Below w1.heap.size w1 W := by rw [hW]; exact (Below.refl _ _).alloc (Nat.le_refl _) _
        have HFIN : Hid (OutC 57 46 w2 w.heap.size (ks.take (j + 1)) v' (F ++ (F1 ++ F2))) := by
          have q7 := Q7.out
          rw [HTK.out]
          refine OutC.push (w1 := W) (g := g) (cs := cs) ?_ rfl (OwnCs.keep _ _ _ Q3.out fun f hf => bW.block f (OwnCs.lt _ _ _ Q3.out f hf)) Q4.out hBg Q6.out (OwnC.keep HOWN.out fun f hf => bW.block f (OwnC.lt HOWN.out f hf)) (fun f hf => by have := HFR.out f hf; omega) HND.out (fun f hf h' => by have := HFR.out f hf; have := q7 f h'; omega) ?_ hgrow hat
          · rw [HLJ.out, hW]; exact World.ownsRow.alloc Q1.out _
          · rw [HLJ.out]; exact hown'
        have HBN : Hid (Below w.heap.size w w2) := by
          have b1 : Below w.heap.size w W := (HB.out.trans (HBB.out.mono hszw)).trans (bW.mono (by omega))
          refine ⟨hgrow.os.trans b1.os, hgrow.tape.trans b1.tape, hgrow.output.trans b1.output, Nat.le_trans b1.size hgrow.size, fun k hk => ?_⟩
          rw [hgrow.block k (Nat.lt_of_lt_of_le hk b1.size) (by intro e; have : k = g := by simpa [Value.ownBlock] using e
                                                                omega)]
          exact b1.block k hk
        clear hown' hgrow hat Q1 Q3 Q4 Q6 Q7 HOWN HFR HND HBB bW hW
        go_wp2
        go_roundw
        case rel => exact ⟨j + 1, _, _, by omega, by go_num, rfl, HBN.out, HFIN.out⟩
        case measure => simp [intOf]; omega
    · have HE : Hid (OutC 57 46 wr w.heap.size ks vo F) := by
        have := HO.out
        rw [List.take_of_length_le (by omega)] at this
        exact this
      obtain ⟨g, cp, rfl, _⟩ := OutC.shape HE.out
      clear HO
      go_wp2
      go_ret
      obtain ⟨F', q1, q2, q3⟩ := OutC.own HE.out
      exact ⟨_, F', rfl, q1, q2, q3, HB.out⟩
end Go.Proofs.YtmhmlkdoaojimapDoor

/- spec.l08ClausesOfRaw, spec.ClausesOf. -/
namespace Go.Proofs.YtmhmlkdoaojimapDoor
open Go.RowKit

theorem toL_mkC (s : ByteArray) : (⟨s.toList.toArray⟩ : ByteArray) = s := by
  rw [ByteArray.toList_eq]

theorem ofPred_leS (q : ByteArray) (cs : List Cla) (j : Nat) : (ofPred q (cs.take j)).length ≤ cs.length := by
  have h1 : (ofPred q (cs.take j)).length ≤ (cs.take j).length := List.length_filter_le _ _
  rw [List.length_take] at h1
  omega
theorem ClsVals.snoc {w : World} {cs : List Cla} {news : List Value} {c : Cla} {k1 s1 n1 a1 l1 m1 k2 s2 n2 a2 l2 m2} (h : ClsVals w cs news) (hf : c.f.size ≤ maxLen) (i1 : TmIn w c.h (.agg #[.int .i64 k1, .string s1, .int .i64 n1, .slice a1 l1 m1])) (i2 : TmIn w c.b (.agg #[.int .i64 k2, .string s2, .int .i64 n2, .slice a2 l2 m2])) :
    ClsVals w (cs ++ [c]) (news ++ [.int .i64 k1, .string s1, .int .i64 n1, .slice a1 l1 m1, .int .i64 k2, .string s2, .int .i64 n2, .slice a2 l2 m2, .string c.f]) := by
  refine ⟨by simp [h.1]; omega, fun j hj => ?_⟩
  by_cases hlt : j < cs.length
  · obtain ⟨q1, q2, q3, q4, q5, q6, q7, q8, q9, q10, q11, q12, h1, h2, h3, h4⟩ := h.2 j hlt
    have e : (cs ++ [c])[j] = cs[j] := List.getElem_append_left hlt
    rw [e]
    refine ⟨q1, q2, q3, q4, q5, q6, q7, q8, q9, q10, q11, q12, fun r hr => ?_, h2, h3, h4⟩
    rw [List.getElem?_append_left (by rw [h.1]; omega)]
    exact h1 r hr
  · obtain rfl : j = cs.length := by simp at hj; omega
    have e : (cs ++ [c])[cs.length] = c := by simp
    rw [e]
    refine ⟨k1, s1, n1, a1, l1, m1, k2, s2, n2, a2, l2, m2, fun r hr => ?_, hf, i1, i2⟩
    rw [List.getElem?_append_right (by rw [h.1]; omega), h.1, show cs.length * 9 + r - cs.length * 9 = r by omega]

set_option maxHeartbeats 8000000 in
set_option maxRecDepth 20000 in
theorem cof_raw (cs : List Cla) (q : ByteArray) (w : World) (c0 c1 : Value) (h : ClsIn w cs c0) (hl : cs.length ≤ 1048576) (hwt : ∀ c ∈ cs, c.h.wt ≤ 1048576) (hc1 : ∃ a l k, c1 = .slice a l k) :
    Calls Tryd.prog 36 #[.agg #[c0, c1], .string q] w fun e w' => ∃ v, e = .returned v ∧ ClsIn w' (ofPred q cs) v ∧ Below w.heap.size w w' := by
  obtain ⟨W, hW⟩ : ∃ W, W = (w.alloc (.cells #[c0, c1] 30)).alloc (.cells #[] 57) := ⟨_, rfl⟩
  have bW : Below w.heap.size w W := by rw [hW]; exact ((Below.refl _ _).alloc (Nat.le_refl _) _).alloc (by simp) _
  have lW : W.heap.size = w.heap.size + 2 := by rw [hW]; simp
  have k1 : W.heap[w.heap.size]? = some (.cells #[c0, c1] 30 (0, 0)) := by rw [hW]; exact (alloc_old _ _ (by simp)).trans (alloc_at _ _ rfl)
  have k2 : W.heap[w.heap.size + 1]? = some (.cells #[] 57 (0, 0)) := by rw [hW]; exact alloc_at _ _ (by simp)
  obtain ⟨i0, hi, hz0, hz1, hz2⟩ := info_parts infoC
  obtain ⟨ao, cap, news0, rfl, hcap, hmax, hv, hcell⟩ := cls_vals h
  obtain ⟨a2, l2, p2, rfl⟩ := hc1
  have HV : Hid (ClsVals w cs news0 ∧ (∀ c ∈ cs, c.h.wt ≤ 1048576) ∧ cs.length ≤ 1048576) := ⟨hv, hwt, hl⟩
  have HCELL : Hid (cs ≠ [] → ∃ b off, ao = some ⟨b, off, none⟩ ∧ ∀ j z, news0[j]? = some z → w.cell? ⟨b, off + j, none⟩ = some z) := hcell
  have HBW : Hid (Below w.heap.size w W) := bW
  obtain ⟨p, hp⟩ : ∃ p, p = w.heap.size := ⟨_, rfl⟩
  rw [← hp] at k1 k2 lW
  have HK : Hid (∀ w1, Below (p + 1) W w1 → w1.heap[p]? = some (.cells #[.slice ao cs.length cap, .slice a2 l2 p2] 30 (0, 0))) := fun w1 hb => (hb.block _ (by omega)).trans k1
  have HPP : Hid (p = w.heap.size ∧ W.heap.size = p + 2) := ⟨hp, lW⟩
  have HR0 : Hid (W.ownsRow (p + 1) 57 9 (.slice (some ⟨p + 1, 0, none⟩) 0 0) 0 []) := ⟨rfl, Or.inr ⟨p + 1, 0, #[], rfl, Nat.le_refl _, k2, Nat.le_refl _, by unfold maxLen; omega, rfl, rfl⟩⟩
  clear h hv hwt bW lW k1 k2 hcell hcap hmax
  go_enter Tryd.func36, Tryd.ntmps36
  go_upto_region 3 with fail
  rw [← hW, ← hp]
  clear hW hp
  go_loopw [5, 6] (fun v5 v6 wr => ∃ (j : Nat) (v : Value) (news : List Value), j ≤ cs.length ∧ v6 = .int .i64 (j : Int) ∧ v = v5 ∧ Hid (Below (p + 1) W wr ∧ W.heap.size ≤ wr.heap.size ∧ wr.ownsRow (p + 1) 57 9 v (ofPred q (cs.take j)).length news ∧ ClsVals w (ofPred q (cs.take j)) news)) (fun _ i _ => cs.length - (intOf i).toNat)
  case atStart =>
    exact ⟨0, _, [], by omega, rfl, rfl, Below.refl _ _, Nat.le_refl _, HR0.out, rfl, fun j hj => by simp [ofPred] at hj⟩
  case round =>
    obtain ⟨j, v, news, hj, rfl, rfl, HB⟩ := hrel
    have x9 := blk_cell (i := 0) (HK.out wr HB.out.1) (by simp)
    by_cases hlt : j < cs.length
    · obtain ⟨b, off, rfl, hc9⟩ := HCELL.out (by intro e; subst e; simp at hlt)
      obtain ⟨k1, t1, n1, a1, l1, m1, k2, t2, n2, a3, l3, m2, hcc, hf, o1, o2⟩ := HV.out.1.2 j hlt
      have hbw : Below w.heap.size w wr := by
        have hpp := HPP.out
        refine HBW.out.trans (HB.out.1.mono (by omega))
      have hat : ∀ r, r < 9 → ∀ z, [Value.int .i64 k1, .string t1, .int .i64 n1, .slice a1 l1 m1, .int .i64 k2, .string t2, .int .i64 n2, .slice a3 l3 m2, .string cs[j].f][r]? = some z → wr.cell? ⟨b, off + (j * 9 + r), none⟩ = some z := fun r hr z hz => cell_keep (hc9 _ _ ((hcc r hr).trans hz)) hbw
      have x0 := hat 0 (by omega) _ rfl
      have x1 := hat 1 (by omega) _ rfl
      have x2 := hat 2 (by omega) _ rfl
      have x3 := hat 3 (by omega) _ rfl
      have HAT : Hid _ := hat
      have HLW : Hid (∀ w1, Below wr.heap.size wr w1 → ∀ r, r < 9 → ∀ z, [Value.int .i64 k1, .string t1, .int .i64 n1, .slice a1 l1 m1, .int .i64 k2, .string t2, .int .i64 n2, .slice a3 l3 m2, .string cs[j].f][r]? = some z → w1.cell? ⟨b, off + (j * 9 + r), none⟩ = some z) := fun w1 hb r hr z hz => cell_keep (hat r hr z hz) hb
      have HC : Hid _ := c_pred cs[j].h wr _ (TmIn.keep hbw _ _ o1) (HV.out.2.1 _ (List.getElem_mem hlt))
      have HTK : Hid (cs.take (j + 1) = cs.take j ++ [cs[j]]) := List.take_succ_eq_append_getElem hlt
      have HSN : Hid (∀ ns, ClsVals w (ofPred q (cs.take j)) ns → ClsVals w (ofPred q (cs.take j) ++ [cs[j]]) (ns ++ [.int .i64 k1, .string t1, .int .i64 n1, .slice a1 l1 m1, .int .i64 k2, .string t2, .int .i64 n2, .slice a3 l3 m2, .string cs[j].f])) := fun ns h => h.snoc hf o1 o2
      have hnl : cs.length ≤ 1048576 := HV.out.2.2
      rw [← Nat.add_assoc] at x1 x2 x3
      rw [Nat.add_zero] at x0
      clear hc9 hcc hf o1 o2 hat
      generalize cs[j] = kj at *
      by_cases e : predB kj.h = q
      · have e3 : (predB kj.h).toList = q.toList := by rw [e]
        go_upto_region 6 with (go_at_call 62; refine (Calls.mono HC.out ?_); rintro e w1 ⟨rfl, hb⟩; have HB1 : Hid (Below wr.heap.size wr w1) := hb; have y9 := blk_cell (i := 0) (HK.out w1 (HB.out.1.trans (hb.mono (by have := HB.out.2.1; have := HPP.out; omega)))) (by simp); clear hb)
        clear x0 x1 x2 x3
        have hw := HLW.out w1 HB1.out
        have x0 := hw 0 (by omega) _ rfl
        have x1 := hw 1 (by omega) _ rfl
        have x2 := hw 2 (by omega) _ rfl
        have x3 := hw 3 (by omega) _ rfl
        have x4 := hw 4 (by omega) _ rfl
        have x5 := hw 5 (by omega) _ rfl
        have x6 := hw 6 (by omega) _ rfl
        have x7 := hw 7 (by omega) _ rfl
        have x8 := hw 8 (by omega) _ rfl
        rw [← Nat.add_assoc] at x1 x2 x3 x4 x5 x6 x7 x8
        rw [Nat.add_zero] at x0
        obtain ⟨vo, vl, vc, rfl⟩ := owns_shape HB.out.2.2.1
        have HR1 : Hid (w1.ownsRow (p + 1) 57 9 (.slice vo vl vc) (ofPred q (cs.take j)).length news) := row_keepB HB.out.2.2.1 fun b e => HB1.out.block b (HB.out.2.2.1.lt b e).2
        clear hw
        go_wp2_with (at_builtin; go_loud (refine wpList_append_own_at _ rfl _ _ 28 rfl (p + 1) 57 i0 (.agg #[.int .i64 0, .string ⟨#[]⟩, .int .i64 0, .slice none 0 0, .int .i64 0, .string ⟨#[]⟩, .int .i64 0, .slice none 0 0, .string ⟨#[]⟩]) 9 128 Tryd.underlying28 hi hz0 hz1 hz2 rfl (by decide) _ _ _ rfl (HR1.out.alloc _) ⟨w1.heap.size, 0, none⟩ 1 1 [.int .i64 k1, .string t1, .int .i64 n1, .slice a1 l1 m1, .int .i64 k2, .string t2, .int .i64 n2, .slice a3 l3 m2, .string kj.f] rfl rfl ?c1 ?c2 ?c3 ?c4 ?c5 ?_))
        case c1 =>
          intro j z hj
          match j, hj with
          | 0, hj => simp at hj; subst hj; simp [Addr.add]
          | 1, hj => simp at hj; subst hj; simp [Addr.add]
          | 2, hj => simp at hj; subst hj; simp [Addr.add]
          | 3, hj => simp at hj; subst hj; simp [Addr.add]
          | 4, hj => simp at hj; subst hj; simp [Addr.add]
          | 5, hj => simp at hj; subst hj; simp [Addr.add]
          | 6, hj => simp at hj; subst hj; simp [Addr.add]
          | 7, hj => simp at hj; subst hj; simp [Addr.add]
          | 8, hj => simp at hj; subst hj; simp [Addr.add]
        case c2 => intro z hz; simp at hz; rcases hz with rfl | rfl | rfl | rfl | rfl | rfl | rfl | rfl | rfl <;> rfl
        case c3 => have := ofPred_leS q cs j; unfold maxLen; omega
        case c4 => have := ofPred_leS q cs j; omega
        case c5 => have := HPP.out; have := HB.out.2.1; have := HB1.out.size; simp; omega
        intro v' w2 hown' hgrow _ hat
        obtain ⟨W1, hW1⟩ : ∃ W1, W1 = w1.alloc (.cells #[.int .i64 k1, .string t1, .int .i64 n1, .slice a1 l1 m1, .int .i64 k2, .string t2, .int .i64 n2, .slice a3 l3 m2, .string kj.f] 57) := ⟨_, rfl⟩
        rw [← hW1] at hgrow
        have bW1 : Below w1.heap.size w1 W1 := by rw [hW1]; exact (Below.refl _ _).alloc (Nat.le_refl _) _
        have HFIN : Hid (Below (p + 1) W w2 ∧ W.heap.size ≤ w2.heap.size ∧ w2.ownsRow (p + 1) 57 9 v' (ofPred q (cs.take (j + 1))).length (news ++ [.int .i64 k1, .string t1, .int .i64 n1, .slice a1 l1 m1, .int .i64 k2, .string t2, .int .i64 n2, .slice a3 l3 m2, .string kj.f]) ∧ ClsVals w (ofPred q (cs.take (j + 1))) (news ++ [.int .i64 k1, .string t1, .int .i64 n1, .slice a1 l1 m1, .int .i64 k2, .string t2, .int .i64 n2, .slice a3 l3 m2, .string kj.f])) := by
          obtain ⟨b1, b2, b3, b4⟩ := HB.out
          have hpp := HPP.out
          rw [HTK.out, ofPred_snoc, if_pos e]
          have hl9 : (ofPred q (cs.take j) ++ [kj]).length = (ofPred q (cs.take j)).length + 1 := by simp
          have hbw : Below (p + 1) W W1 := (b1.trans (HB1.out.mono (by omega))).trans (bW1.mono (by have := HB1.out.size; omega))
          refine ⟨⟨hgrow.os.trans hbw.os, hgrow.tape.trans hbw.tape, hgrow.output.trans hbw.output, Nat.le_trans hbw.size hgrow.size, fun k hk => (hgrow.block k (by have := hbw.size; omega) (fun e => by have := (b3.lt k e.symm).1; omega)).trans (hbw.block k hk)⟩, by have := hbw.size; have := hgrow.size; omega, by rw [hl9]; exact hown', HSN.out _ b4⟩
        clear hown' hgrow hat hW1 bW1 x0 x1 x2 x3 x4 x5 x6 x7 x8 y9
        go_wp2
        go_roundw
        case rel => exact ⟨j + 1, v', _, by omega, by go_num, rfl, HFIN.out⟩
        case measure => simp [intOf]; omega
      · have e3 : ((predB kj.h).toList == q.toList) = false := by
          rw [beq_eq_false_iff_ne]
          intro h
          exact e (by rw [← toL_mkC (predB kj.h), ← toL_mkC q, h])
        have HSAME : Hid (ofPred q (cs.take (j + 1)) = ofPred q (cs.take j)) := by
          show _ = _
          rw [HTK.out, ofPred_snoc, if_neg e]
        go_wp2_with (go_at_call 62; refine (Calls.mono HC.out ?_); rintro e w1 ⟨rfl, hb⟩; have HB1 : Hid (Below wr.heap.size wr w1) := hb; clear hb)
        go_roundw
        case rel =>
          obtain ⟨b1, b2, b3, b4⟩ := HB.out
          have hpp := HPP.out
          refine ⟨j + 1, _, news, by omega, by go_num, rfl, ?_⟩
          rw [HSAME.out]
          exact ⟨b1.trans (HB1.out.mono (by omega)), by have := HB1.out.size; omega, row_keepB b3 fun b e => HB1.out.block b (b3.lt b e).2, b4⟩
        case measure => simp [intOf]; omega
    · obtain rfl : j = cs.length := by omega
      go_wp2
      go_ret
      obtain ⟨b1, b2, b3, b4⟩ := HB.out
      rw [List.take_of_length_le (Nat.le_refl _)] at b3 b4
      have hpp := HPP.out
      have hbw : Below w.heap.size w wr := HBW.out.trans (b1.mono (by omega))
      exact ⟨_, rfl, vals_in b3 (b4.keep hbw), hbw⟩
end Go.Proofs.YtmhmlkdoaojimapDoor
