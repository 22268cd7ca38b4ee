/- laws.toDb. -/
import Derived.Test.YtmhmlkdoaojimapDoorStrTo
namespace Go.Proofs.YtmhmlkdoaojimapDoor
open Go.RowKit

set_option maxHeartbeats 4000000 in
set_option maxRecDepth 20000 in
theorem to_db (cs : List Cla) (xs : List ByteArray) (w : World) (c0 c1 : Value) (h : ClsIn w cs c0) (hx : SsIn w xs c1) (hl1 : cs.length + claWts cs ≤ 1048576) (hl2 : xs.length ≤ 1048576) :
    Calls Tryd.prog 9 #[.agg #[c0, c1]] w fun e w' => ∃ sl F g, e = .returned (.agg #[sl, .slice (some ⟨g, 0, none⟩) xs.length xs.length]) ∧ OwnClS 57 46 w' cs sl F ∧ w'.ownsRow 0 9 1 (.slice (some ⟨g, 0, none⟩) xs.length xs.length) xs.length (xs.map Value.string) ∧
      (∀ f ∈ F, w.heap.size ≤ f) ∧ F.Nodup ∧ w.heap.size ≤ g ∧ g ∉ F ∧ Below w.heap.size w w' := by
  obtain ⟨W, hW⟩ : ∃ W, W = ((w.alloc (.cells #[c0, c1] 25)).alloc (.cells #[.slice none 0 0, .slice none 0 0] 30)).alloc (.cells #[.slice none 0 0, .slice none 0 0] 30) := ⟨_, rfl⟩
  have bW : Below w.heap.size w W := by rw [hW]; exact (((Below.refl _ _).alloc (Nat.le_refl _) _).alloc (by simp) _).alloc (by simp; omega) _
  have lW : W.heap.size = w.heap.size + 3 := by rw [hW]; simp
  have k1' : W.heap[w.heap.size]? = some (.cells #[c0, c1] 25 (0, 0)) := by rw [hW]; exact (alloc_old _ _ (by simp; omega)).trans ((alloc_old _ _ (by simp)).trans (alloc_at _ _ rfl))
  have k2' : W.heap[w.heap.size + 1]? = some (.cells #[.slice none 0 0, .slice none 0 0] 30 (0, 0)) := by rw [hW]; exact (alloc_old _ _ (by simp)).trans (alloc_at _ _ (by simp))
  have k3' : W.heap[w.heap.size + 2]? = some (.cells #[.slice none 0 0, .slice none 0 0] 30 (0, 0)) := by rw [hW]; exact alloc_at _ _ (by simp)
  have HC1 : Hid _ := to_clauses cs W c0 hl1 (h.keep bW)
  have HC2 : Hid (∀ w1, Below w.heap.size w w1 → Calls Tryd.prog 31 #[c1] w1 fun e w' => ∃ sl, e = .returned sl ∧ sl = .slice (some ⟨w1.heap.size, 0, none⟩) xs.length xs.length ∧ w'.ownsRow 0 9 1 sl xs.length (xs.map Value.string) ∧ Below w1.heap.size w1 w') := fun w1 hb => to_strs xs w1 _ hl2 (hx.keep hb)
  obtain ⟨a1, p1, rfl, -⟩ := h
  obtain ⟨a2, p2, rfl, -⟩ := hx
  have HBW : Hid (Below w.heap.size w W) := bW
  have HL : Hid (W.heap.size = w.heap.size + 3) := lW
  have HK1 : Hid (W.heap[w.heap.size]? = _) := k1'
  have HK2 : Hid (W.heap[w.heap.size + 1]? = _) := k2'
  have HK3 : Hid (W.heap[w.heap.size + 2]? = _) := k3'
  clear bW lW k1' k2' k3' hl1 hl2
  go_enter Tryd.func9, Tryd.ntmps9
  go_upto_region 2 with fail
  rw [← hW]
  clear hW
  obtain ⟨p, hp⟩ : ∃ p, p = w.heap.size := ⟨_, rfl⟩
  rw [← hp] at HL HK1 HK2 HK3 ⊢
  have HPP : Hid (p = w.heap.size) := hp
  clear hp
  have hpq : p ≠ p + 2 := by omega
  have y0 := blk_cell (i := 0) HK1.out (by simp)
  go_upto_region 3 with (go_at_call 30; refine (Calls.mono HC1.out ?_); rintro e w1 ⟨sl, F, rfl, o, hf, nd, hb⟩; obtain ⟨a3, p3, rfl⟩ := ownClS_shape o; have HO1 : Hid _ := o; have HF1 : Hid ((∀ x ∈ F, p + 3 ≤ x) ∧ F.Nodup) := ⟨fun x hx => by have := hf x hx; have := HL.out; omega, nd⟩; have HB1 : Hid (Below W.heap.size W w1) := hb; have hk := (hb.block _ (Array.getElem?_eq_some_iff.1 HK3.out).1).trans HK3.out; have HKP : Hid _ := hk; clear o hf nd hb; clear y0; have z0 := blk_cell (i := 0) hk (by simp); have g0 := blk_frozen hk 0; clear hk)
  clear z0 g0
  obtain ⟨V1, hV1⟩ : ∃ V1, V1 = w1.setCell ⟨p + 1 + 1, 0, none⟩ (.slice a3 cs.length p3) := ⟨_, rfl⟩
  first | rw [← hV1] | (have hV1' := hV1; simp only [Nat.add_assoc, Nat.reduceAdd] at hV1'; rw [← hV1'])
  replace hV1 : V1 = w1.setCell ⟨p + 2, 0, none⟩ (.slice a3 cs.length p3) := hV1
  have b1 : Below p w V1 := by rw [hV1]; exact below_set (by rw [HPP.out]; exact HBW.out.trans (HB1.out.mono HBW.out.size)) (by omega) _
  have hk1 : V1.heap[p]? = some (.cells #[.slice a1 cs.length p1, .slice a2 xs.length p2] 25 (0, 0)) := by rw [hV1]; exact (blk_other _ (by omega)).trans ((HB1.out.block _ (Array.getElem?_eq_some_iff.1 HK1.out).1).trans HK1.out)
  have hk2 : V1.heap[p + 1]? = some (.cells #[.slice none 0 0, .slice none 0 0] 30 (0, 0)) := by rw [hV1]; exact (blk_other _ (by omega)).trans ((HB1.out.block _ (Array.getElem?_eq_some_iff.1 HK2.out).1).trans HK2.out)
  have hk3 : V1.heap[p + 2]? = some (.cells #[.slice a3 cs.length p3, .slice none 0 0] 30 (0, 0)) := by rw [hV1]; simpa using blk_set (i := 0) HKP.out (.slice a3 cs.length p3)
  have hs1 : V1.heap.size = w1.heap.size := by rw [hV1]; simp [World.setCell]
  have HOV : Hid (OwnClS 57 46 V1 cs (.slice a3 cs.length p3) F) := by rw [hV1]; exact OwnClS.keep HO1.out fun x hx => blk_other _ (by have := HF1.out.1 x hx; omega)
  have HS1 : Hid (∀ x ∈ F, x < V1.heap.size) := fun x hx => by rw [hs1]; exact OwnClS.lt HO1.out x hx
  have HB1V : Hid (Below w.heap.size w V1) := by show Below _ _ _; rw [← HPP.out]; exact b1
  have HP1 : Hid (p + 3 ≤ V1.heap.size) := by have := HB1.out.size; have := HL.out; show _ ≤ _; omega
  have HK4 : Hid (V1.heap[p + 1]? = _ ∧ V1.heap[p + 2]? = _) := ⟨hk2, hk3⟩
  have HC3 : Hid _ := HC2.out V1 HB1V.out
  have y1 := blk_cell (i := 1) hk1 (by simp)
  clear hV1 b1 hs1 hk1 hk2 hk3 HKP HO1 HB1 HC1 HC2
  go_upto_region 4 with (go_at_call 31; refine (Calls.mono HC3.out ?_); rintro e w2 ⟨_, rfl, rfl, o, hb⟩; have HO2 : Hid _ := o; have HB2 : Hid (Below V1.heap.size V1 w2) := hb; have hk := (hb.block _ (Array.getElem?_eq_some_iff.1 HK4.out.2).1).trans HK4.out.2; have HKP : Hid _ := hk; clear o hb; clear y1; have z0 := blk_cell (i := 1) hk (by simp); have g0 := blk_frozen hk 1; clear hk)
  clear z0 g0
  obtain ⟨G, hG⟩ : ∃ G, G = V1.heap.size := ⟨_, rfl⟩
  rw [← hG] at HO2 ⊢
  have HGG : Hid (G = V1.heap.size) := hG
  clear hG
  obtain ⟨V2, hV2⟩ : ∃ V2, V2 = w2.setCell ⟨p + 1 + 1, 1, none⟩ (.slice (some ⟨G, 0, none⟩) xs.length xs.length) := ⟨_, rfl⟩
  first | rw [← hV2] | (have hV2' := hV2; simp only [Nat.add_assoc, Nat.reduceAdd] at hV2'; rw [← hV2'])
  replace hV2 : V2 = w2.setCell ⟨p + 2, 1, none⟩ (.slice (some ⟨G, 0, none⟩) xs.length xs.length) := hV2
  have hk2 : V2.heap[p + 1]? = some (.cells #[.slice none 0 0, .slice none 0 0] 30 (0, 0)) := by rw [hV2]; exact (blk_other _ (by omega)).trans ((HB2.out.block _ (Array.getElem?_eq_some_iff.1 HK4.out.1).1).trans HK4.out.1)
  have hk3 : V2.heap[p + 2]? = some (.cells #[.slice a3 cs.length p3, .slice (some ⟨G, 0, none⟩) xs.length xs.length] 30 (0, 0)) := by rw [hV2]; simpa using blk_set (i := 1) HKP.out (.slice (some ⟨G, 0, none⟩) xs.length xs.length)
  have HFIN : Hid (∀ V, V = (V2.setCell ⟨p + 1, 0, none⟩ (.slice a3 cs.length p3)).setCell ⟨p + 1, 1, none⟩ (.slice (some ⟨G, 0, none⟩) xs.length xs.length) → V.heap[p + 1]? = some (.cells #[.slice a3 cs.length p3, .slice (some ⟨G, 0, none⟩) xs.length xs.length] 30 (0, 0)) ∧
      OwnClS 57 46 V cs (.slice a3 cs.length p3) F ∧ V.ownsRow 0 9 1 (.slice (some ⟨G, 0, none⟩) xs.length xs.length) xs.length (xs.map Value.string) ∧ (∀ f ∈ F, p ≤ f) ∧ F.Nodup ∧ p ≤ G ∧ G ∉ F ∧ Below p w V) := by
    rintro V rfl
    have hG := HGG.out
    have hP := HP1.out
    refine ⟨by simpa using blk_set (i := 1) (blk_set (i := 0) hk2 (.slice a3 cs.length p3)) (.slice (some ⟨G, 0, none⟩) xs.length xs.length), OwnClS.keep HOV.out fun f hf => ?_, row_keep HO2.out ?_, fun f hf => by have := HF1.out.1 f hf; omega, HF1.out.2, by omega, fun hf => by have := HS1.out G hf; omega, ?_⟩
    · have h1 := HF1.out.1 f hf
      rw [blk_other _ (by omega), blk_other _ (by omega), hV2, blk_other _ (by omega)]
      exact HB2.out.block f (HS1.out f hf)
    · rw [blk_other _ (by omega), blk_other _ (by omega), hV2, blk_other _ (by omega)]
    · refine below_set (below_set ?_ (by omega) _) (by omega) _
      rw [hV2]
      refine below_set ?_ (by omega) _
      have := HB1V.out
      rw [← HPP.out] at this
      exact this.trans (HB2.out.mono (by omega))
  have y0 := blk_cell (i := 0) hk2 (by simp)
  have y1 := blk_cell (i := 1) hk2 (by simp)
  have f0 := blk_frozen hk2 0
  have f1 := blk_frozen hk2 1
  have z0 := blk_cell (i := 0) hk3 (by simp)
  have z1 := blk_cell (i := 1) hk3 (by simp)
  clear hk2 hk3 hV2 HKP HO2 HOV
  go_wp2
  obtain ⟨r1, r2⟩ := HFIN.out _ rfl
  refine bodyPost_ret_by (results_cell_row rfl _ _ (p + 1) 30 _ (0, 0) _ rfl r1 Tryd.underlying30 rfl (by kernel_rfl)) rfl ?_
  exact ⟨_, F, G, rfl, by simpa only [HPP.out] using r2⟩
end Go.Proofs.YtmhmlkdoaojimapDoor
