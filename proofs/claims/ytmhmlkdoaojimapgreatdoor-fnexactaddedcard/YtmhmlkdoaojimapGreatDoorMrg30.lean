/- Four texts in one. -/
import Derived.Test.YtmhmlkdoaojimapGreatDoorMrg2
import Derived.Test.YtmhmlkdoaojimapGreatDoorMrg29
import Derived.Test.YtmhmlkdoaojimapGreatDoorMrg1
import Derived.Deep.DeepCutAuto
import Derived.Test.YtmhmlkdoaojimapGreatDoorMrg16
import Derived.Test.YtmhmlkdoaojimapGreatDoorMrg17
import Derived.Test.YtmhmlkdoaojimapGreatDoorMrg6
import Derived.Test.YtmhmlkdoaojimapGreatDoorMrg3
/- laws.markClause. -/
namespace Go.Proofs.YtmhmlkdoaojimapGreatDoor
open Go.RowKit

set_option maxHeartbeats 2000000 in
theorem mark_clause (H B : Tm) (f : ByteArray) (w : World) (k s n a l c k' s' n' a' l' c') (F G : List Nat) (i j : Nat) (h1 : Own 41 w H (.agg #[.int .i64 k, .string s, .int .i64 n, .slice a l c]) F) (h2 : Own 41 w B (.agg #[.int .i64 k', .string s', .int .i64 n', .slice a' l' c']) G)
    (hF : F.Nodup) (hG : G.Nodup) (hd : ∀ x ∈ G, x ∉ F) (hi : 0 < i) (hj : j = i + 3 * ns H.kids) (hb : j + 3 * ns B.kids ≤ 2000000000) :
    Calls Tryz.prog 13 #[.agg #[.int .i64 k, .string s, .int .i64 n, .slice a l c, .int .i64 k', .string s', .int .i64 n', .slice a' l' c', .string f], .int .i64 (i : Int)] w fun e w' => e = .returned (.int .i64 ((j + 3 * ns B.kids : Nat) : Int)) ∧
      Own 41 w' (H.markK i) (.agg #[.int .i64 k, .string s, .int .i64 n, .slice a l c]) F ∧ Own 41 w' (B.markK j) (.agg #[.int .i64 k', .string s', .int .i64 n', .slice a' l' c']) G ∧ Out (F ++ G) w w' := by
  obtain ⟨W, hW⟩ : ∃ W, W = w.alloc (.cells #[.int .i64 k, .string s, .int .i64 n, .slice a l c, .int .i64 k', .string s', .int .i64 n', .slice a' l' c', .string f] 43) := ⟨_, rfl⟩
  have bW : Below w.heap.size w W := by rw [hW]; exact (Below.refl _ _).alloc (Nat.le_refl _) _
  have lW : W.heap.size = w.heap.size + 1 := by rw [hW]; simp
  have k1 : W.heap[w.heap.size]? = some (.cells #[.int .i64 k, .string s, .int .i64 n, .slice a l c, .int .i64 k', .string s', .int .i64 n', .slice a' l' c', .string f] 43 (0, 0)) := by rw [hW]; exact alloc_at _ _ rfl
  have l1 := Own.lt _ _ _ h1
  have l2 := Own.lt _ _ _ h2
  have o1 : Own 41 W H (.agg #[.int .i64 k, .string s, .int .i64 n, .slice a l c]) F := Own.keep _ _ _ h1 fun x hx => bW.block x (l1 x hx)
  have o2 : Own 41 W B (.agg #[.int .i64 k', .string s', .int .i64 n', .slice a' l' c']) G := Own.keep _ _ _ h2 fun x hx => bW.block x (l2 x hx)
  have HM1 := mark_term H W _ F i o1 hF hi (by omega)
  rw [← hj] at HM1
  have HM1' : Hid _ := HM1
  have HM2 : Hid (∀ w1, Out F W w1 → Calls Tryz.prog 31 #[.agg #[.int .i64 k', .string s', .int .i64 n', .slice a' l' c'], .int .i64 (j : Int)] w1 fun e w' => e = .returned (.int .i64 ((j + 3 * ns B.kids : Nat) : Int)) ∧ Own 41 w' (B.markK j) (.agg #[.int .i64 k', .string s', .int .i64 n', .slice a' l' c']) G ∧ Out G w1 w') := fun w1 ho =>
    mark_term B w1 _ G j (Own.keep _ _ _ o2 fun x hx => ho.block x (by have := l2 x hx; omega) (hd x hx)) hG (by omega) (by omega)
  have HC : Hid (∀ w1, Out F W w1 → w1.heap[w.heap.size]? = some (.cells #[.int .i64 k, .string s, .int .i64 n, .slice a l c, .int .i64 k', .string s', .int .i64 n', .slice a' l' c', .string f] 43 (0, 0))) := fun w1 ho => (ho.block _ (by omega) fun hx => by have := l1 _ hx; omega).trans k1
  have HBW : Hid (Below w.heap.size w W) := bW
  have HX : Hid (∀ w1 w2, Out F W w1 → Own 41 w1 (H.markK i) (.agg #[.int .i64 k, .string s, .int .i64 n, .slice a l c]) F → Out G w1 w2 → Own 41 w2 (H.markK i) (.agg #[.int .i64 k, .string s, .int .i64 n, .slice a l c]) F ∧ Out (F ++ G) w w2) := fun w1 w2 q1 q2 q3 =>
    ⟨Own.keep _ _ _ q2 fun x hx => q3.block x (Own.lt _ _ _ q2 x hx) fun hg => hd x hg hx, (Out.of_below bW).trans ((q1.mono fun x hx => List.mem_append_left _ hx).trans (q3.mono fun x hx => List.mem_append_right _ hx))⟩
  clear h1 h2 hF hG hd hb hi hj o1 o2 l1 l2 k1 bW lW HM1
  generalize j + 3 * ns B.kids = m at *
  go_enter Tryz.func13, Tryz.ntmps13
  go_upto_region 1 with fail
  rw [← hW]
  obtain ⟨⟨c0, c1, c2, c3, c4, c5, c6, c7, c8⟩, _⟩ := blk9 (HC.out W (Out.refl _ _))
  clear hW
  go_upto_region 2 with (go_at_call 31; refine (Calls.mono HM1'.out ?_); rintro e w1 ⟨rfl, ho, hu⟩; have HO1 : Hid _ := ho; have HU1 : Hid (Out F W w1) := hu; clear ho hu)
  clear c0 c1 c2 c3 c4 c5 c6 c7 c8
  obtain ⟨⟨c0, c1, c2, c3, c4, c5, c6, c7, c8⟩, _⟩ := blk9 (HC.out w1 HU1.out)
  have HM3 : Hid _ := HM2.out w1 HU1.out
  go_wp2_with (go_at_call 31; refine (Calls.mono HM3.out ?_); rintro e w2 ⟨rfl, ho, hu⟩; have HO2 : Hid _ := ho; have HU2 : Hid (Out G w1 w2) := hu; clear ho hu)
  go_ret
  have := HX.out w1 w2 HU1.out HO1.out HU2.out
  exact ⟨rfl, this.1, HO2.out, this.2⟩

end Go.Proofs.YtmhmlkdoaojimapGreatDoor

/- laws.toDb. -/
namespace Go.Proofs.YtmhmlkdoaojimapGreatDoor
open Go.RowKit

set_option maxHeartbeats 4000000 in
set_option maxRecDepth 20000 in
theorem to_db (cs : List Cla) (xs : List ByteArray) (w : World) (c0 c1 : Value) (h : ClsIn w cs c0) (hx : SsIn w xs c1) (hl1 : cs.length + claWts cs ≤ 1048576) (hl2 : xs.length ≤ 1048576) :
    Calls Tryz.prog 7 #[.agg #[c0, c1]] w fun e w' => ∃ sl F g, e = .returned (.agg #[sl, .slice (some ⟨g, 0, none⟩) xs.length xs.length]) ∧ OwnClS 43 41 w' cs sl F ∧ w'.ownsRow 0 9 1 (.slice (some ⟨g, 0, none⟩) xs.length xs.length) xs.length (xs.map Value.string) ∧
      (∀ f ∈ F, w.heap.size ≤ f) ∧ F.Nodup ∧ w.heap.size ≤ g ∧ g ∉ F ∧ Below w.heap.size w w' := by
  obtain ⟨W, hW⟩ : ∃ W, W = ((w.alloc (.cells #[c0, c1] 25)).alloc (.cells #[.slice none 0 0, .slice none 0 0] 35)).alloc (.cells #[.slice none 0 0, .slice none 0 0] 35) := ⟨_, rfl⟩
  have bW : Below w.heap.size w W := by rw [hW]; exact (((Below.refl _ _).alloc (Nat.le_refl _) _).alloc (by simp) _).alloc (by simp; omega) _
  have lW : W.heap.size = w.heap.size + 3 := by rw [hW]; simp
  have k1' : W.heap[w.heap.size]? = some (.cells #[c0, c1] 25 (0, 0)) := by rw [hW]; exact (alloc_old _ _ (by simp; omega)).trans ((alloc_old _ _ (by simp)).trans (alloc_at _ _ rfl))
  have k2' : W.heap[w.heap.size + 1]? = some (.cells #[.slice none 0 0, .slice none 0 0] 35 (0, 0)) := by rw [hW]; exact (alloc_old _ _ (by simp)).trans (alloc_at _ _ (by simp))
  have k3' : W.heap[w.heap.size + 2]? = some (.cells #[.slice none 0 0, .slice none 0 0] 35 (0, 0)) := by rw [hW]; exact alloc_at _ _ (by simp)
  have HC1 : Hid _ := to_clauses cs W c0 hl1 (h.keep bW)
  have HC2 : Hid (∀ w1, Below w.heap.size w w1 → Calls Tryz.prog 21 #[c1] w1 fun e w' => ∃ sl, e = .returned sl ∧ sl = .slice (some ⟨w1.heap.size, 0, none⟩) xs.length xs.length ∧ w'.ownsRow 0 9 1 sl xs.length (xs.map Value.string) ∧ Below w1.heap.size w1 w') := fun w1 hb => to_strs xs w1 _ hl2 (hx.keep hb)
  obtain ⟨a1, p1, rfl, -⟩ := h
  obtain ⟨a2, p2, rfl, -⟩ := hx
  have HBW : Hid (Below w.heap.size w W) := bW
  have HL : Hid (W.heap.size = w.heap.size + 3) := lW
  have HK1 : Hid (W.heap[w.heap.size]? = _) := k1'
  have HK2 : Hid (W.heap[w.heap.size + 1]? = _) := k2'
  have HK3 : Hid (W.heap[w.heap.size + 2]? = _) := k3'
  clear bW lW k1' k2' k3' hl1 hl2
  go_enter Tryz.func7, Tryz.ntmps7
  go_upto_region 2 with fail
  rw [← hW]
  clear hW
  obtain ⟨p, hp⟩ : ∃ p, p = w.heap.size := ⟨_, rfl⟩
  rw [← hp] at HL HK1 HK2 HK3 ⊢
  have HPP : Hid (p = w.heap.size) := hp
  clear hp
  have hpq : p ≠ p + 2 := by omega
  have y0 := blk_cell (i := 0) HK1.out (by simp)
  go_upto_region 3 with (go_at_call 20; refine (Calls.mono HC1.out ?_); rintro e w1 ⟨sl, F, rfl, o, hf, nd, hb⟩; obtain ⟨a3, p3, rfl⟩ := ownClS_shape o; have HO1 : Hid _ := o; have HF1 : Hid ((∀ x ∈ F, p + 3 ≤ x) ∧ F.Nodup) := ⟨fun x hx => by have := hf x hx; have := HL.out; omega, nd⟩; have HB1 : Hid (Below W.heap.size W w1) := hb; have hk := (hb.block _ (Array.getElem?_eq_some_iff.1 HK3.out).1).trans HK3.out; have HKP : Hid _ := hk; clear o hf nd hb; clear y0; have z0 := blk_cell (i := 0) hk (by simp); have g0 := blk_frozen hk 0; clear hk)
  clear z0 g0
  obtain ⟨V1, hV1⟩ : ∃ V1, V1 = w1.setCell ⟨p + 1 + 1, 0, none⟩ (.slice a3 cs.length p3) := ⟨_, rfl⟩
  first | rw [← hV1] | (have hV1' := hV1; simp only [Nat.add_assoc, Nat.reduceAdd] at hV1'; rw [← hV1'])
  replace hV1 : V1 = w1.setCell ⟨p + 2, 0, none⟩ (.slice a3 cs.length p3) := hV1
  have b1 : Below p w V1 := by rw [hV1]; exact below_set (by rw [HPP.out]; exact HBW.out.trans (HB1.out.mono HBW.out.size)) (by omega) _
  have hk1 : V1.heap[p]? = some (.cells #[.slice a1 cs.length p1, .slice a2 xs.length p2] 25 (0, 0)) := by rw [hV1]; exact (blk_other _ (by omega)).trans ((HB1.out.block _ (Array.getElem?_eq_some_iff.1 HK1.out).1).trans HK1.out)
  have hk2 : V1.heap[p + 1]? = some (.cells #[.slice none 0 0, .slice none 0 0] 35 (0, 0)) := by rw [hV1]; exact (blk_other _ (by omega)).trans ((HB1.out.block _ (Array.getElem?_eq_some_iff.1 HK2.out).1).trans HK2.out)
  have hk3 : V1.heap[p + 2]? = some (.cells #[.slice a3 cs.length p3, .slice none 0 0] 35 (0, 0)) := by rw [hV1]; simpa using blk_set (i := 0) HKP.out (.slice a3 cs.length p3)
  have hs1 : V1.heap.size = w1.heap.size := by rw [hV1]; simp [World.setCell]
  have HOV : Hid (OwnClS 43 41 V1 cs (.slice a3 cs.length p3) F) := by rw [hV1]; exact OwnClS.keep HO1.out fun x hx => blk_other _ (by have := HF1.out.1 x hx; omega)
  have HS1 : Hid (∀ x ∈ F, x < V1.heap.size) := fun x hx => by rw [hs1]; exact OwnClS.lt HO1.out x hx
  have HB1V : Hid (Below w.heap.size w V1) := by show Below _ _ _; rw [← HPP.out]; exact b1
  have HP1 : Hid (p + 3 ≤ V1.heap.size) := by have := HB1.out.size; have := HL.out; show _ ≤ _; omega
  have HK4 : Hid (V1.heap[p + 1]? = _ ∧ V1.heap[p + 2]? = _) := ⟨hk2, hk3⟩
  have HC3 : Hid _ := HC2.out V1 HB1V.out
  have y1 := blk_cell (i := 1) hk1 (by simp)
  clear hV1 b1 hs1 hk1 hk2 hk3 HKP HO1 HB1 HC1 HC2
  go_upto_region 4 with (go_at_call 21; refine (Calls.mono HC3.out ?_); rintro e w2 ⟨_, rfl, rfl, o, hb⟩; have HO2 : Hid _ := o; have HB2 : Hid (Below V1.heap.size V1 w2) := hb; have hk := (hb.block _ (Array.getElem?_eq_some_iff.1 HK4.out.2).1).trans HK4.out.2; have HKP : Hid _ := hk; clear o hb; clear y1; have z0 := blk_cell (i := 1) hk (by simp); have g0 := blk_frozen hk 1; clear hk)
  clear z0 g0
  obtain ⟨G, hG⟩ : ∃ G, G = V1.heap.size := ⟨_, rfl⟩
  rw [← hG] at HO2 ⊢
  have HGG : Hid (G = V1.heap.size) := hG
  clear hG
  obtain ⟨V2, hV2⟩ : ∃ V2, V2 = w2.setCell ⟨p + 1 + 1, 1, none⟩ (.slice (some ⟨G, 0, none⟩) xs.length xs.length) := ⟨_, rfl⟩
  first | rw [← hV2] | (have hV2' := hV2; simp only [Nat.add_assoc, Nat.reduceAdd] at hV2'; rw [← hV2'])
  replace hV2 : V2 = w2.setCell ⟨p + 2, 1, none⟩ (.slice (some ⟨G, 0, none⟩) xs.length xs.length) := hV2
  have hk2 : V2.heap[p + 1]? = some (.cells #[.slice none 0 0, .slice none 0 0] 35 (0, 0)) := by rw [hV2]; exact (blk_other _ (by omega)).trans ((HB2.out.block _ (Array.getElem?_eq_some_iff.1 HK4.out.1).1).trans HK4.out.1)
  have hk3 : V2.heap[p + 2]? = some (.cells #[.slice a3 cs.length p3, .slice (some ⟨G, 0, none⟩) xs.length xs.length] 35 (0, 0)) := by rw [hV2]; simpa using blk_set (i := 1) HKP.out (.slice (some ⟨G, 0, none⟩) xs.length xs.length)
  have HFIN : Hid (∀ V, V = (V2.setCell ⟨p + 1, 0, none⟩ (.slice a3 cs.length p3)).setCell ⟨p + 1, 1, none⟩ (.slice (some ⟨G, 0, none⟩) xs.length xs.length) → V.heap[p + 1]? = some (.cells #[.slice a3 cs.length p3, .slice (some ⟨G, 0, none⟩) xs.length xs.length] 35 (0, 0)) ∧
      OwnClS 43 41 V cs (.slice a3 cs.length p3) F ∧ V.ownsRow 0 9 1 (.slice (some ⟨G, 0, none⟩) xs.length xs.length) xs.length (xs.map Value.string) ∧ (∀ f ∈ F, p ≤ f) ∧ F.Nodup ∧ p ≤ G ∧ G ∉ F ∧ Below p w V) := by
    rintro V rfl
    have hG := HGG.out
    have hP := HP1.out
    refine ⟨by simpa using blk_set (i := 1) (blk_set (i := 0) hk2 (.slice a3 cs.length p3)) (.slice (some ⟨G, 0, none⟩) xs.length xs.length), OwnClS.keep HOV.out fun f hf => ?_, row_keep HO2.out ?_, fun f hf => by have := HF1.out.1 f hf; omega, HF1.out.2, by omega, fun hf => by have := HS1.out G hf; omega, ?_⟩
    · have h1 := HF1.out.1 f hf
      rw [blk_other _ (by omega), blk_other _ (by omega), hV2, blk_other _ (by omega)]
      exact HB2.out.block f (HS1.out f hf)
    · rw [blk_other _ (by omega), blk_other _ (by omega), hV2, blk_other _ (by omega)]
    · refine below_set (below_set ?_ (by omega) _) (by omega) _
      rw [hV2]
      refine below_set ?_ (by omega) _
      have := HB1V.out
      rw [← HPP.out] at this
      exact this.trans (HB2.out.mono (by omega))
  have y0 := blk_cell (i := 0) hk2 (by simp)
  have y1 := blk_cell (i := 1) hk2 (by simp)
  have f0 := blk_frozen hk2 0
  have f1 := blk_frozen hk2 1
  have z0 := blk_cell (i := 0) hk3 (by simp)
  have z1 := blk_cell (i := 1) hk3 (by simp)
  clear hk2 hk3 hV2 HKP HO2 HOV
  go_wp2
  obtain ⟨r1, r2⟩ := HFIN.out _ rfl
  refine bodyPost_ret_by (results_cell_row rfl _ _ (p + 1) 35 _ (0, 0) _ rfl r1 Tryz.underlying35 rfl (by kernel_rfl)) rfl ?_
  exact ⟨_, F, G, rfl, by simpa only [HPP.out] using r2⟩
end Go.Proofs.YtmhmlkdoaojimapGreatDoor

/- A Db in memory of its own, for the laws' frames. -/
namespace Go.Proofs.YtmhmlkdoaojimapGreatDoor
open Go.RowKit

/-- the texts as lists of bytes -/
def strL (xs : List ByteArray) : List (List UInt8) := xs.map fun x => x.data.toList
theorem strL_v (xs : List ByteArray) : strsV (strL xs) = xs.map Value.string := by
  simp [strsV, strL]
theorem strL_len (xs : List ByteArray) : (strL xs).length = xs.length := by simp [strL]

/-- the clauses and the names, each row in blocks of its own -/
def DbOwn (w : World) (cs : List Cla) (xs : List ByteArray) (c0 c1 : Value) (F : List Nat) : Prop :=
  ∃ a p g k F0, c0 = .slice a cs.length p ∧ c1 = .slice (some ⟨g, 0, none⟩) xs.length k ∧ OwnClS 43 41 w cs c0 F0 ∧ w.ownsRow 0 9 1 c1 xs.length (xs.map Value.string) ∧ F = F0 ++ [g] ∧ F.Nodup
theorem dbOwn_of {w : World} {cs : List Cla} {xs : List ByteArray} {sl : Value} {F : List Nat} {g k : Nat} (h1 : OwnClS 43 41 w cs sl F) (h2 : w.ownsRow 0 9 1 (.slice (some ⟨g, 0, none⟩) xs.length k) xs.length (xs.map Value.string)) (h3 : F.Nodup) (h4 : g ∉ F) : DbOwn w cs xs sl (.slice (some ⟨g, 0, none⟩) xs.length k) (F ++ [g]) := by
  obtain ⟨a, p, rfl⟩ := ownClS_shape h1
  exact ⟨a, p, g, k, F, rfl, rfl, h1, h2, rfl, List.nodup_append.2 ⟨h3, by simp, fun x hx y hy e => h4 (by simp at hy; rw [← hy, ← e]; exact hx)⟩⟩
theorem DbOwn.lt {w : World} {cs : List Cla} {xs : List ByteArray} {c0 c1 : Value} {F : List Nat} (h : DbOwn w cs xs c0 c1 F) : ∀ x ∈ F, x < w.heap.size := by
  obtain ⟨a, p, g, k, F0, rfl, rfl, h1, h2, rfl, _⟩ := h
  intro x hx
  rcases List.mem_append.1 hx with hx | hx
  · exact h1.lt x hx
  · obtain rfl : x = g := by simpa using hx
    exact (h2.lt x rfl).2
theorem DbOwn.keep {w w' : World} {cs : List Cla} {xs : List ByteArray} {c0 c1 : Value} {F : List Nat} (h : DbOwn w cs xs c0 c1 F) (hF : ∀ x ∈ F, w'.heap[x]? = w.heap[x]?) : DbOwn w' cs xs c0 c1 F := by
  obtain ⟨a, p, g, k, F0, rfl, rfl, h1, h2, rfl, h3⟩ := h
  exact ⟨a, p, g, k, F0, rfl, rfl, h1.keep fun f hf => hF f (by simp [hf]), row_keep h2 (hF g (by simp)), rfl, h3⟩
theorem DbOwn.below {w w' : World} {cs : List Cla} {xs : List ByteArray} {c0 c1 : Value} {F : List Nat} (h : DbOwn w cs xs c0 c1 F) (hb : Below w.heap.size w w') : DbOwn w' cs xs c0 c1 F := h.keep fun x hx => hb.block x (h.lt x hx)
theorem DbOwn.shape {w : World} {cs : List Cla} {xs : List ByteArray} {c0 c1 : Value} {F : List Nat} (h : DbOwn w cs xs c0 c1 F) : ∃ a p b l k, c0 = .slice a cs.length p ∧ c1 = .slice b l k := by
  obtain ⟨a, p, g, k, F0, rfl, rfl, _⟩ := h
  exact ⟨a, p, _, _, k, rfl, rfl⟩

theorem to_dbO (cs : List Cla) (xs : List ByteArray) (w : World) (c0 c1 : Value) (h : ClsIn w cs c0) (hx : SsIn w xs c1) (hl1 : cs.length + claWts cs ≤ 1048576) (hl2 : xs.length ≤ 1048576) :
    Calls Tryz.prog 7 #[.agg #[c0, c1]] w fun e w' => ∃ d0 d1 F, e = .returned (.agg #[d0, d1]) ∧ DbOwn w' cs xs d0 d1 F ∧ (∀ x ∈ F, w.heap.size ≤ x) ∧ Below w.heap.size w w' := by
  refine Calls.mono (to_db cs xs w c0 c1 h hx hl1 hl2) ?_
  rintro e w' ⟨sl, F, g, rfl, o1, o2, o3, o4, o5, o6, o7⟩
  refine ⟨_, _, _, rfl, dbOwn_of o1 o2 o4 o6, fun x hx => ?_, o7⟩
  rcases List.mem_append.1 hx with hx | hx
  · exact o3 x hx
  · obtain rfl : x = g := by simpa using hx
    exact o5
theorem eq_dbO (cs : List Cla) (xs : List ByteArray) (w : World) (c0 c1 d0 d1 : Value) (F G : List Nat) (h : DbOwn w cs xs c0 c1 F) (h' : DbOwn w cs xs d0 d1 G) (hl : xs.length ≤ 1100000) :
    Calls Tryz.prog 10 #[.agg #[c0, c1], .agg #[d0, d1]] w fun e w' => e = .returned (.bool true) ∧ Below w.heap.size w w' := by
  obtain ⟨a, p, g, k, F0, rfl, rfl, h1, h2, rfl, _⟩ := h
  obtain ⟨a', p', g', k', F0', rfl, rfl, h1', h2', rfl, _⟩ := h'
  have q1 := h2
  have q2 := h2'
  rw [← strL_v, ← strL_len xs] at q1 q2
  have := eq_db cs (strL xs) w _ _ _ _ h1.toIn h1'.toIn (by rw [strL_len]; exact hl) q1 q2
  rw [strL_len] at this
  exact this
/-- as an argument of one that only reads it -/
theorem DbOwn.args {w : World} {cs : List Cla} {xs : List ByteArray} {c0 c1 : Value} {F : List Nat} (h : DbOwn w cs xs c0 c1 F) (hs : ∀ x ∈ xs, x.size ≤ maxLen) : ClsIn w cs c0 ∧ SsIn w xs c1 ∧ ∃ F0, OwnClS 43 41 w cs c0 F0 ∧ F0.Nodup := by
  obtain ⟨a, p, g, k, F0, rfl, rfl, h1, h2, rfl, h3⟩ := h
  exact ⟨h1.toIn, owns_ss h2 hs, F0, h1, (List.nodup_append.1 h3).1⟩
end Go.Proofs.YtmhmlkdoaojimapGreatDoor

/- Marks over a row of clauses: what they are, and nine cells of a block turned one by one. -/
namespace Go.Proofs.YtmhmlkdoaojimapGreatDoor
open Go.RowKit

def Cla.n (c : Cla) : Nat := 3 * c.h.n + 3 * c.b.n + 1
def Cla.markT (c : Cla) (i : Nat) : Cla := ⟨c.h.markT i, c.b.markT (i + 3 * c.h.n), ⟨(mkS (i + 3 * c.h.n + 3 * c.b.n)).toArray⟩⟩
def claNs : List Cla → Nat
  | [] => 0
  | c :: cs => c.n + claNs cs
theorem claNs_append (a b : List Cla) : claNs (a ++ b) = claNs a + claNs b := by
  induction a with
  | nil => simp [claNs]
  | cons c cs ih => simp only [List.cons_append, claNs, ih]; omega
def markCs : List Cla → Nat → List Cla
  | [], _ => []
  | c :: cs, i => c.markT i :: markCs cs (i + c.n)
theorem markCs_append (l m : List Cla) (i : Nat) : markCs (l ++ m) i = markCs l i ++ markCs m (i + claNs l) := by
  induction l generalizing i with
  | nil => simp [markCs, claNs]
  | cons c cs ih => simp only [List.cons_append, markCs, claNs, ih, Nat.add_assoc]
theorem markCs_len (l : List Cla) (i : Nat) : (markCs l i).length = l.length := by
  induction l generalizing i with
  | nil => rfl
  | cons c cs ih => simp only [markCs, List.length_cons, ih]

/-- nine cells of block g from a place on; the others are those of cur0 -/
def Nine (T : TypeId) (w : World) (g base N : Nat) (cells : List Value) (cur0 : List Value) : Prop :=
  ∃ cur : Array Value, w.heap[g]? = some (.cells cur T (0, 0)) ∧ cur.size = N ∧ cells.length = 9 ∧ base + 9 ≤ N ∧ (∀ i, i < 9 → cur[base + i]? = cells[i]?) ∧ (∀ i, (i < base ∨ base + 9 ≤ i) → cur[i]? = cur0[i]?)
theorem Nine.cell {T : TypeId} {w : World} {g base N : Nat} {cells cur0 : List Value} (h : Nine T w g base N cells cur0) {i : Nat} {v : Value} (hi : i < 9) (hv : cells[i]? = some v) : w.cell? ⟨g, base + i, none⟩ = some v ∧ w.frozen? ⟨g, base + i, none⟩ = false := by
  obtain ⟨cur, h1, h2, h3, h4, h5, h6⟩ := h
  refine ⟨?_, blk_frozen h1 _⟩
  unfold World.cell?
  simp only
  rw [h1]
  exact (h5 i hi).trans hv
theorem Nine.set {T : TypeId} {w : World} {g base N : Nat} {cells cur0 : List Value} (h : Nine T w g base N cells cur0) {i : Nat} (hi : i < 9) (d : Value) : Nine T (w.setCell ⟨g, base + i, none⟩ d) g base N (cells.set i d) cur0 := by
  obtain ⟨cur, h1, h2, h3, h4, h5, h6⟩ := h
  refine ⟨_, blk_set h1 d, by simpa using h2, by simpa using h3, h4, fun k hk => ?_, fun k hk => ?_⟩
  · rw [Array.getElem?_setIfInBounds, List.getElem?_set]
    by_cases e : i = k
    · subst e
      rw [if_pos rfl, if_pos (by omega), if_pos rfl, if_pos (by omega)]
    · rw [if_neg (by omega), if_neg e]
      exact h5 k hk
  · rw [Array.getElem?_setIfInBounds, if_neg (by omega)]
    exact h6 k hk
theorem Nine.keep {T : TypeId} {w w' : World} {g base N : Nat} {cells cur0 : List Value} (h : Nine T w g base N cells cur0) (hg : w'.heap[g]? = w.heap[g]?) : Nine T w' g base N cells cur0 := by
  obtain ⟨cur, h1, h2⟩ := h
  exact ⟨cur, hg.trans h1, h2⟩
theorem Nine.lt {T : TypeId} {w : World} {g base N : Nat} {cells cur0 : List Value} (h : Nine T w g base N cells cur0) : g < w.heap.size := by
  obtain ⟨cur, h1, _⟩ := h
  exact (Array.getElem?_eq_some_iff.1 h1).1
/-- the whole row behind it -/
theorem Nine.row {T : TypeId} {w : World} {g base N : Nat} {cells : List Value} {pre old tl : List Value} (hp : pre.length = base) (ho : old.length = 9) (h : Nine T w g base N cells (pre ++ (old ++ tl))) :
    ∃ cur : Array Value, w.heap[g]? = some (.cells cur T (0, 0)) ∧ cur.size = N ∧ cur.toList = pre ++ (cells ++ tl) := by
  obtain ⟨cur, h1, h2, h3, h4, h5, h6⟩ := h
  refine ⟨cur, h1, h2, ?_⟩
  apply List.ext_getElem?
  intro i
  rw [Array.getElem?_toList]
  by_cases c1 : i < base
  · rw [h6 i (Or.inl c1), List.getElem?_append_left (by omega), List.getElem?_append_left (by omega)]
  · by_cases c2 : i < base + 9
    · have := h5 (i - base) (by omega)
      rw [show base + (i - base) = i by omega] at this
      rw [this, List.getElem?_append_right (by omega), hp, List.getElem?_append_left (by omega)]
    · have e : ∀ x : List Value, x.length = 9 → (pre ++ (x ++ tl))[i]? = tl[i - base - 9]? := fun x hx => by
        rw [List.getElem?_append_right (by omega), hp, List.getElem?_append_right (by omega), hx]
      rw [h6 i (Or.inr (by omega)), e _ ho, e _ h3]
end Go.Proofs.YtmhmlkdoaojimapGreatDoor
