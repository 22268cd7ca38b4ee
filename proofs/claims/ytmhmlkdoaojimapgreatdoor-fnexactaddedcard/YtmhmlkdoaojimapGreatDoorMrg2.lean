/- Four texts in one. -/
import Derived.Test.YtmhmlkdoaojimapGreatDoorMrg1
import Derived.Deep.DeepCutAuto
/- A block of nine cells. Of no program. -/
namespace Go.Proofs.YtmhmlkdoaojimapGreatDoor
open Go.RowKit

theorem blk9 {w : World} {g : Nat} {c0 c1 c2 c3 c4 c5 c6 c7 c8 : Value} {T : TypeId} (h : w.heap[g]? = some (.cells #[c0, c1, c2, c3, c4, c5, c6, c7, c8] T (0, 0))) :
    (w.cell? ⟨g, 0, none⟩ = some c0 ∧ w.cell? ⟨g, 1, none⟩ = some c1 ∧ w.cell? ⟨g, 2, none⟩ = some c2 ∧ w.cell? ⟨g, 3, none⟩ = some c3 ∧ w.cell? ⟨g, 4, none⟩ = some c4 ∧ w.cell? ⟨g, 5, none⟩ = some c5 ∧ w.cell? ⟨g, 6, none⟩ = some c6 ∧ w.cell? ⟨g, 7, none⟩ = some c7 ∧ w.cell? ⟨g, 8, none⟩ = some c8) ∧
    (w.frozen? ⟨g, 0, none⟩ = false ∧ w.frozen? ⟨g, 1, none⟩ = false ∧ w.frozen? ⟨g, 2, none⟩ = false ∧ w.frozen? ⟨g, 3, none⟩ = false ∧ w.frozen? ⟨g, 4, none⟩ = false ∧ w.frozen? ⟨g, 5, none⟩ = false ∧ w.frozen? ⟨g, 6, none⟩ = false ∧ w.frozen? ⟨g, 7, none⟩ = false ∧ w.frozen? ⟨g, 8, none⟩ = false) :=
  ⟨⟨blk_cell (i := 0) h (by simp), blk_cell (i := 1) h (by simp), blk_cell (i := 2) h (by simp), blk_cell (i := 3) h (by simp), blk_cell (i := 4) h (by simp), blk_cell (i := 5) h (by simp), blk_cell (i := 6) h (by simp), blk_cell (i := 7) h (by simp), blk_cell (i := 8) h (by simp)⟩,
   blk_frozen h 0, blk_frozen h 1, blk_frozen h 2, blk_frozen h 3, blk_frozen h 4, blk_frozen h 5, blk_frozen h 6, blk_frozen h 7, blk_frozen h 8⟩
/-- nine cells of a block set, one behind the other -/
def set9 (w : World) (g : Nat) (d0 d1 d2 d3 d4 d5 d6 d7 d8 : Value) : World :=
  (((((((((w.setCell ⟨g, 0, none⟩ d0).setCell ⟨g, 1, none⟩ d1).setCell ⟨g, 2, none⟩ d2).setCell ⟨g, 3, none⟩ d3).setCell ⟨g, 4, none⟩ d4).setCell ⟨g, 5, none⟩ d5).setCell ⟨g, 6, none⟩ d6).setCell ⟨g, 7, none⟩ d7).setCell ⟨g, 8, none⟩ d8)
theorem blk9_set {w : World} {g : Nat} {c0 c1 c2 c3 c4 c5 c6 c7 c8 d0 d1 d2 d3 d4 d5 d6 d7 d8 : Value} {T : TypeId} (h : w.heap[g]? = some (.cells #[c0, c1, c2, c3, c4, c5, c6, c7, c8] T (0, 0))) :
    (set9 w g d0 d1 d2 d3 d4 d5 d6 d7 d8).heap[g]? = some (.cells #[d0, d1, d2, d3, d4, d5, d6, d7, d8] T (0, 0)) := by
  have := blk_set (i := 8) (blk_set (i := 7) (blk_set (i := 6) (blk_set (i := 5) (blk_set (i := 4) (blk_set (i := 3) (blk_set (i := 2) (blk_set (i := 1) (blk_set (i := 0) h d0) d1) d2) d3) d4) d5) d6) d7) d8
  simpa [set9] using this
theorem blk9_other {w : World} {g f : Nat} {d0 d1 d2 d3 d4 d5 d6 d7 d8 : Value} (h : f ≠ g) : (set9 w g d0 d1 d2 d3 d4 d5 d6 d7 d8).heap[f]? = w.heap[f]? := by
  unfold set9
  rw [blk_other _ h, blk_other _ h, blk_other _ h, blk_other _ h, blk_other _ h, blk_other _ h, blk_other _ h, blk_other _ h, blk_other _ h]
theorem blk9_below {B : Nat} {w w' : World} {g : Nat} {d0 d1 d2 d3 d4 d5 d6 d7 d8 : Value} (hb : Below B w w') (hg : B ≤ g) : Below B w (set9 w' g d0 d1 d2 d3 d4 d5 d6 d7 d8) :=
  below_set (below_set (below_set (below_set (below_set (below_set (below_set (below_set (below_set hb hg _) hg _) hg _) hg _) hg _) hg _) hg _) hg _) hg _
/-- the first eight of nine cells set -/
theorem blk9_set8 {w : World} {g : Nat} {c0 c1 c2 c3 c4 c5 c6 c7 c8 d0 d1 d2 d3 d4 d5 d6 d7 : Value} {T : TypeId} (h : w.heap[g]? = some (.cells #[c0, c1, c2, c3, c4, c5, c6, c7, c8] T (0, 0))) :
    ((((((((w.setCell ⟨g, 0, none⟩ d0).setCell ⟨g, 1, none⟩ d1).setCell ⟨g, 2, none⟩ d2).setCell ⟨g, 3, none⟩ d3).setCell ⟨g, 4, none⟩ d4).setCell ⟨g, 5, none⟩ d5).setCell ⟨g, 6, none⟩ d6).setCell ⟨g, 7, none⟩ d7).heap[g]? = some (.cells #[d0, d1, d2, d3, d4, d5, d6, d7, c8] T (0, 0)) := by
  have := blk_set (i := 7) (blk_set (i := 6) (blk_set (i := 5) (blk_set (i := 4) (blk_set (i := 3) (blk_set (i := 2) (blk_set (i := 1) (blk_set (i := 0) h d0) d1) d2) d3) d4) d5) d6) d7
  simpa using this
/-- the second four of nine cells set -/
theorem blk9_set4b {w : World} {g : Nat} {c0 c1 c2 c3 c4 c5 c6 c7 c8 d4 d5 d6 d7 : Value} {T : TypeId} (h : w.heap[g]? = some (.cells #[c0, c1, c2, c3, c4, c5, c6, c7, c8] T (0, 0))) :
    ((((w.setCell ⟨g, 4, none⟩ d4).setCell ⟨g, 5, none⟩ d5).setCell ⟨g, 6, none⟩ d6).setCell ⟨g, 7, none⟩ d7).heap[g]? = some (.cells #[c0, c1, c2, c3, d4, d5, d6, d7, c8] T (0, 0)) := by
  have := blk_set (i := 7) (blk_set (i := 6) (blk_set (i := 5) (blk_set (i := 4) h d4) d5) d6) d7
  simpa using this
end Go.Proofs.YtmhmlkdoaojimapGreatDoor

/- A block of four cells. Of no program. -/
namespace Go.Proofs.YtmhmlkdoaojimapGreatDoor
open Go.RowKit

theorem blk4 {w : World} {g : Nat} {c0 c1 c2 c3 : Value} {T : TypeId} (h : w.heap[g]? = some (.cells #[c0, c1, c2, c3] T (0, 0))) :
    w.cell? ⟨g, 0, none⟩ = some c0 ∧ w.cell? ⟨g, 1, none⟩ = some c1 ∧ w.cell? ⟨g, 2, none⟩ = some c2 ∧ w.cell? ⟨g, 3, none⟩ = some c3 ∧ w.frozen? ⟨g, 0, none⟩ = false ∧ w.frozen? ⟨g, 1, none⟩ = false ∧ w.frozen? ⟨g, 2, none⟩ = false ∧ w.frozen? ⟨g, 3, none⟩ = false :=
  ⟨blk_cell (i := 0) h (by simp), blk_cell (i := 1) h (by simp), blk_cell (i := 2) h (by simp), blk_cell (i := 3) h (by simp), blk_frozen h 0, blk_frozen h 1, blk_frozen h 2, blk_frozen h 3⟩

/-- four cells of a block set, one behind the other -/
theorem blk4_set {w : World} {g : Nat} {c0 c1 c2 c3 d0 d1 d2 d3 : Value} {T : TypeId} (h : w.heap[g]? = some (.cells #[c0, c1, c2, c3] T (0, 0))) :
    ((((w.setCell ⟨g, 0, none⟩ d0).setCell ⟨g, 1, none⟩ d1).setCell ⟨g, 2, none⟩ d2).setCell ⟨g, 3, none⟩ d3).heap[g]? = some (.cells #[d0, d1, d2, d3] T (0, 0)) := by
  have := blk_set (i := 3) (blk_set (i := 2) (blk_set (i := 1) (blk_set (i := 0) h d0) d1) d2) d3
  simpa using this
theorem blk4_other {w : World} {g f : Nat} {d0 d1 d2 d3 : Value} (h : f ≠ g) :
    ((((w.setCell ⟨g, 0, none⟩ d0).setCell ⟨g, 1, none⟩ d1).setCell ⟨g, 2, none⟩ d2).setCell ⟨g, 3, none⟩ d3).heap[f]? = w.heap[f]? := by
  rw [blk_other _ h, blk_other _ h, blk_other _ h, blk_other _ h]
theorem blk4_below {B : Nat} {w w' : World} {g : Nat} {d0 d1 d2 d3 : Value} (hb : Below B w w') (hg : B ≤ g) :
    Below B w ((((w'.setCell ⟨g, 0, none⟩ d0).setCell ⟨g, 1, none⟩ d1).setCell ⟨g, 2, none⟩ d2).setCell ⟨g, 3, none⟩ d3) :=
  below_set (below_set (below_set (below_set hb hg _) hg _) hg _) hg _

end Go.Proofs.YtmhmlkdoaojimapGreatDoor

/- laws.toClause. -/
namespace Go.Proofs.YtmhmlkdoaojimapGreatDoor
open Go.RowKit

theorem blk9_set4c {w : World} {g : Nat} {c0 c1 c2 c3 c4 c5 c6 c7 c8 d0 d1 d2 d3 : Value} {T : TypeId} (h : w.heap[g]? = some (.cells #[c0, c1, c2, c3, c4, c5, c6, c7, c8] T (0, 0))) :
    ((((w.setCell ⟨g, 0, none⟩ d0).setCell ⟨g, 1, none⟩ d1).setCell ⟨g, 2, none⟩ d2).setCell ⟨g, 3, none⟩ d3).heap[g]? = some (.cells #[d0, d1, d2, d3, c4, c5, c6, c7, c8] T (0, 0)) := by
  have := blk_set (i := 3) (blk_set (i := 2) (blk_set (i := 1) (blk_set (i := 0) h d0) d1) d2) d3
  simpa using this
theorem set4c_other {w : World} {g f : Nat} {d0 d1 d2 d3 : Value} (h : f ≠ g) :
    ((((w.setCell ⟨g, 4, none⟩ d0).setCell ⟨g, 5, none⟩ d1).setCell ⟨g, 6, none⟩ d2).setCell ⟨g, 7, none⟩ d3).heap[f]? = w.heap[f]? := by
  rw [blk_other _ h, blk_other _ h, blk_other _ h, blk_other _ h]

set_option maxHeartbeats 4000000 in
set_option maxRecDepth 20000 in
theorem to_clause (H B : Tm) (f : ByteArray) (w : World) (k1 s1 n1 a1 l1 c1 k2 s2 n2 a2 l2 c2) (h1 : TmIn w H (.agg #[.int .i64 k1, .string s1, .int .i64 n1, .slice a1 l1 c1])) (h2 : TmIn w B (.agg #[.int .i64 k2, .string s2, .int .i64 n2, .slice a2 l2 c2])) (o1 : H.wt ≤ 1048576) (o2 : B.wt ≤ 1048576) :
    Calls Tryz.prog 8 #[.agg #[.int .i64 k1, .string s1, .int .i64 n1, .slice a1 l1 c1, .int .i64 k2, .string s2, .int .i64 n2, .slice a2 l2 c2, .string f]] w fun e w' => ∃ k s n ao l c k' s' n' ao' l' c' F G, e = .returned (.agg #[.int .i64 k, .string s, .int .i64 n, .slice ao l c, .int .i64 k', .string s', .int .i64 n', .slice ao' l' c', .string f]) ∧ Own 41 w' H (.agg #[.int .i64 k, .string s, .int .i64 n, .slice ao l c]) F ∧ Own 41 w' B (.agg #[.int .i64 k', .string s', .int .i64 n', .slice ao' l' c']) G ∧
      (∀ x ∈ F, w.heap.size ≤ x) ∧ (∀ x ∈ G, w.heap.size ≤ x) ∧ F.Nodup ∧ G.Nodup ∧ (∀ x ∈ G, x ∉ F) ∧ Below w.heap.size w w' := by
  obtain ⟨W, hW⟩ : ∃ W, W = ((w.alloc (.cells #[.int .i64 k1, .string s1, .int .i64 n1, .slice a1 l1 c1, .int .i64 k2, .string s2, .int .i64 n2, .slice a2 l2 c2, .string f] 30)).alloc (.cells #[.int .i64 0, .string ⟨#[]⟩, .int .i64 0, .slice none 0 0, .int .i64 0, .string ⟨#[]⟩, .int .i64 0, .slice none 0 0, .string ⟨#[]⟩] 43)).alloc (.cells #[.int .i64 0, .string ⟨#[]⟩, .int .i64 0, .slice none 0 0, .int .i64 0, .string ⟨#[]⟩, .int .i64 0, .slice none 0 0, .string ⟨#[]⟩] 43) := ⟨_, rfl⟩
  have bW : Below w.heap.size w W := by rw [hW]; exact (((Below.refl _ _).alloc (Nat.le_refl _) _).alloc (by simp) _).alloc (by simp; omega) _
  have lW : W.heap.size = w.heap.size + 3 := by rw [hW]; simp
  have k1' : W.heap[w.heap.size]? = some (.cells #[.int .i64 k1, .string s1, .int .i64 n1, .slice a1 l1 c1, .int .i64 k2, .string s2, .int .i64 n2, .slice a2 l2 c2, .string f] 30 (0, 0)) := by rw [hW]; exact (alloc_old _ _ (by simp; omega)).trans ((alloc_old _ _ (by simp)).trans (alloc_at _ _ rfl))
  have k2' : W.heap[w.heap.size + 1]? = some (.cells #[.int .i64 0, .string ⟨#[]⟩, .int .i64 0, .slice none 0 0, .int .i64 0, .string ⟨#[]⟩, .int .i64 0, .slice none 0 0, .string ⟨#[]⟩] 43 (0, 0)) := by rw [hW]; exact (alloc_old _ _ (by simp)).trans (alloc_at _ _ (by simp))
  have k3' : W.heap[w.heap.size + 2]? = some (.cells #[.int .i64 0, .string ⟨#[]⟩, .int .i64 0, .slice none 0 0, .int .i64 0, .string ⟨#[]⟩, .int .i64 0, .slice none 0 0, .string ⟨#[]⟩] 43 (0, 0)) := by rw [hW]; exact alloc_at _ _ (by simp)
  have HC1 : Hid _ := to_term H W _ (TmIn.keep bW _ _ h1) o1
  have HC2 : Hid (∀ w1, Below w.heap.size w w1 → Calls Tryz.prog 22 #[.agg #[.int .i64 k2, .string s2, .int .i64 n2, .slice a2 l2 c2]] w1 fun e w' => ∃ v' F, e = .returned v' ∧ Own 41 w' B v' F ∧ (∀ x ∈ F, w1.heap.size ≤ x) ∧ F.Nodup ∧ Below w1.heap.size w1 w') := fun w1 hb => to_term B w1 _ (TmIn.keep hb _ _ h2) o2
  have HBW : Hid (Below w.heap.size w W) := bW
  have HL : Hid (W.heap.size = w.heap.size + 3) := lW
  have HK1 : Hid (W.heap[w.heap.size]? = _) := k1'
  have HK2 : Hid (W.heap[w.heap.size + 1]? = _) := k2'
  have HK3 : Hid (W.heap[w.heap.size + 2]? = _) := k3'
  clear h1 h2 o1 o2 bW lW k1' k2' k3'
  go_enter Tryz.func8, Tryz.ntmps8
  go_upto_region 2 with fail
  rw [← hW]
  clear hW
  obtain ⟨p, hp⟩ : ∃ p, p = w.heap.size := ⟨_, rfl⟩
  rw [← hp] at HL HK1 HK2 HK3 ⊢
  have HPP : Hid (p = w.heap.size) := hp
  clear hp
  have hpq : p ≠ p + 2 := by omega
  obtain ⟨⟨y0, y1, y2, y3, y4, y5, y6, y7, y8⟩, _⟩ := blk9 HK1.out
  go_upto_region 3 with (go_at_call 22; refine (Calls.mono HC1.out ?_); rintro e w1 ⟨v', F, rfl, o, hf, nd, hb⟩; obtain ⟨k3, s3, n3, a3, l3, c3, rfl⟩ := own_shape o; have HO1 : Hid _ := o; have HF1 : Hid ((∀ x ∈ F, p + 3 ≤ x) ∧ F.Nodup) := ⟨fun x hx => by have := hf x hx; have := HL.out; omega, nd⟩; have HB1 : Hid (Below W.heap.size W w1) := hb; have hk := (hb.block _ (Array.getElem?_eq_some_iff.1 HK3.out).1).trans HK3.out; have HKP : Hid _ := hk; clear o hf nd hb; clear y0 y1 y2 y3 y4 y5 y6 y7 y8; obtain ⟨⟨z0, z1, z2, z3, z4, z5, z6, z7, z8⟩, g0, g1, g2, g3, g4, g5, g6, g7, g8⟩ := blk9 hk; clear hk)
  clear z0 z1 z2 z3 z4 z5 z6 z7 z8 g0 g1 g2 g3 g4 g5 g6 g7 g8
  obtain ⟨V1, hV1⟩ : ∃ V1, V1 = ((((w1.setCell ⟨p + 1 + 1, 0, none⟩ (.int .i64 k3)).setCell ⟨p + 1 + 1, 1, none⟩ (.string s3)).setCell ⟨p + 1 + 1, 2, none⟩ (.int .i64 n3)).setCell ⟨p + 1 + 1, 3, none⟩ (.slice a3 l3 c3)) := ⟨_, rfl⟩
  first | rw [← hV1] | (have hV1' := hV1; simp only [Nat.add_assoc, Nat.reduceAdd] at hV1'; rw [← hV1'])
  replace hV1 : V1 = ((((w1.setCell ⟨p + 2, 0, none⟩ (.int .i64 k3)).setCell ⟨p + 2, 1, none⟩ (.string s3)).setCell ⟨p + 2, 2, none⟩ (.int .i64 n3)).setCell ⟨p + 2, 3, none⟩ (.slice a3 l3 c3)) := hV1
  have b1 : Below p w V1 := by rw [hV1]; exact blk4_below (by rw [HPP.out]; exact HBW.out.trans (HB1.out.mono HBW.out.size)) (by omega)
  have hk1 : V1.heap[p]? = some (.cells #[.int .i64 k1, .string s1, .int .i64 n1, .slice a1 l1 c1, .int .i64 k2, .string s2, .int .i64 n2, .slice a2 l2 c2, .string f] 30 (0, 0)) := by rw [hV1]; exact (blk4_other (by omega)).trans ((HB1.out.block _ (Array.getElem?_eq_some_iff.1 HK1.out).1).trans HK1.out)
  have hk2 : V1.heap[p + 1]? = some (.cells #[.int .i64 0, .string ⟨#[]⟩, .int .i64 0, .slice none 0 0, .int .i64 0, .string ⟨#[]⟩, .int .i64 0, .slice none 0 0, .string ⟨#[]⟩] 43 (0, 0)) := by rw [hV1]; exact (blk4_other (by omega)).trans ((HB1.out.block _ (Array.getElem?_eq_some_iff.1 HK2.out).1).trans HK2.out)
  have hk3 : V1.heap[p + 2]? = some (.cells #[.int .i64 k3, .string s3, .int .i64 n3, .slice a3 l3 c3, .int .i64 0, .string ⟨#[]⟩, .int .i64 0, .slice none 0 0, .string ⟨#[]⟩] 43 (0, 0)) := by rw [hV1]; exact blk9_set4c HKP.out
  have hs1 : V1.heap.size = w1.heap.size := by rw [hV1]; simp [World.setCell]
  have HOV : Hid (Own 41 V1 H (.agg #[.int .i64 k3, .string s3, .int .i64 n3, .slice a3 l3 c3]) F) := by rw [hV1]; exact Own.keep _ _ _ HO1.out fun x hx => blk4_other (by have := HF1.out.1 x hx; omega)
  have HS1 : Hid (∀ x ∈ F, x < V1.heap.size) := fun x hx => by rw [hs1]; exact Own.lt _ _ _ HO1.out x hx
  have HB1V : Hid (Below w.heap.size w V1) := by show Below _ _ _; rw [← HPP.out]; exact b1
  have HP1 : Hid (p + 3 ≤ V1.heap.size) := by have := HB1.out.size; have := HL.out; show _ ≤ _; omega
  have HK4 : Hid (V1.heap[p]? = _ ∧ V1.heap[p + 1]? = _ ∧ V1.heap[p + 2]? = _) := ⟨hk1, hk2, hk3⟩
  have HC3 : Hid _ := HC2.out V1 HB1V.out
  clear hV1 b1 hs1 hk2 hk3 HKP HO1 HB1
  obtain ⟨⟨y0, y1, y2, y3, y4, y5, y6, y7, y8⟩, _⟩ := blk9 hk1
  clear hk1
  go_upto_region 4 with (go_at_call 22; refine (Calls.mono HC3.out ?_); rintro e w2 ⟨v', G, rfl, o, hf, nd, hb⟩; obtain ⟨k4, s4, n4, a4, l4, c4, rfl⟩ := own_shape o; have HO2 : Hid _ := o; have HG : Hid ((∀ x ∈ G, V1.heap.size ≤ x) ∧ G.Nodup) := ⟨hf, nd⟩; have HB2 : Hid (Below V1.heap.size V1 w2) := hb; have hk := (hb.block _ (Array.getElem?_eq_some_iff.1 HK4.out.2.2).1).trans HK4.out.2.2; have HKP : Hid _ := hk; clear o hf nd hb; clear y0 y1 y2 y3 y4 y5 y6 y7 y8; obtain ⟨⟨z0, z1, z2, z3, z4, z5, z6, z7, z8⟩, g0, g1, g2, g3, g4, g5, g6, g7, g8⟩ := blk9 hk; clear hk)
  clear z0 z1 z2 z3 z4 z5 z6 z7 z8 g0 g1 g2 g3 g4 g5 g6 g7 g8
  obtain ⟨V2, hV2⟩ : ∃ V2, V2 = ((((w2.setCell ⟨p + 1 + 1, 4, none⟩ (.int .i64 k4)).setCell ⟨p + 1 + 1, 5, none⟩ (.string s4)).setCell ⟨p + 1 + 1, 6, none⟩ (.int .i64 n4)).setCell ⟨p + 1 + 1, 7, none⟩ (.slice a4 l4 c4)) := ⟨_, rfl⟩
  first | rw [← hV2] | (have hV2' := hV2; simp only [Nat.add_assoc, Nat.reduceAdd] at hV2'; rw [← hV2'])
  replace hV2 : V2 = ((((w2.setCell ⟨p + 2, 4, none⟩ (.int .i64 k4)).setCell ⟨p + 2, 5, none⟩ (.string s4)).setCell ⟨p + 2, 6, none⟩ (.int .i64 n4)).setCell ⟨p + 2, 7, none⟩ (.slice a4 l4 c4)) := hV2
  have b2 : Below p w V2 := by rw [hV2]; exact below_set (below_set (below_set (below_set (by have := HB1V.out; rw [← HPP.out] at this; exact this.trans (HB2.out.mono (by have := HP1.out; omega))) (by omega) _) (by omega) _) (by omega) _) (by omega) _
  have hk1 : V2.heap[p]? = some (.cells #[.int .i64 k1, .string s1, .int .i64 n1, .slice a1 l1 c1, .int .i64 k2, .string s2, .int .i64 n2, .slice a2 l2 c2, .string f] 30 (0, 0)) := by rw [hV2]; exact (set4c_other (by omega)).trans ((HB2.out.block _ (Array.getElem?_eq_some_iff.1 HK4.out.1).1).trans HK4.out.1)
  have hk2 : V2.heap[p + 1]? = some (.cells #[.int .i64 0, .string ⟨#[]⟩, .int .i64 0, .slice none 0 0, .int .i64 0, .string ⟨#[]⟩, .int .i64 0, .slice none 0 0, .string ⟨#[]⟩] 43 (0, 0)) := by rw [hV2]; exact (set4c_other (by omega)).trans ((HB2.out.block _ (Array.getElem?_eq_some_iff.1 HK4.out.2.1).1).trans HK4.out.2.1)
  have hk3 : V2.heap[p + 2]? = some (.cells #[.int .i64 k3, .string s3, .int .i64 n3, .slice a3 l3 c3, .int .i64 k4, .string s4, .int .i64 n4, .slice a4 l4 c4, .string ⟨#[]⟩] 43 (0, 0)) := by rw [hV2]; exact blk9_set4b HKP.out
  have HO3 : Hid (Own 41 V2 H (.agg #[.int .i64 k3, .string s3, .int .i64 n3, .slice a3 l3 c3]) F) := by rw [hV2]; exact Own.keep _ _ _ HOV.out fun x hx => (set4c_other (by have := HF1.out.1 x hx; omega)).trans (HB2.out.block x (HS1.out x hx))
  have HO4 : Hid (Own 41 V2 B (.agg #[.int .i64 k4, .string s4, .int .i64 n4, .slice a4 l4 c4]) G) := by rw [hV2]; exact Own.keep _ _ _ HO2.out fun x hx => set4c_other (by have := HG.out.1 x hx; have := HP1.out; omega)
  have HV2 : Hid (Below p w V2) := b2
  have HK5 : Hid (V2.heap[p + 1]? = _ ∧ V2.heap[p + 2]? = _) := ⟨hk2, hk3⟩
  clear hV2 b2 HKP HO2 HOV hk2
  obtain ⟨⟨y0, y1, y2, y3, y4, y5, y6, y7, y8⟩, _⟩ := blk9 hk1
  obtain ⟨⟨z0, z1, z2, z3, z4, z5, z6, z7, z8⟩, g0, g1, g2, g3, g4, g5, g6, g7, g8⟩ := blk9 hk3
  clear hk1 hk3
  go_upto_region 5 with fail
  clear y0 y1 y2 y3 y4 y5 y6 y7 y8 z0 z1 z2 z3 z4 z5 z6 z7 z8 g0 g1 g2 g3 g4 g5 g6 g7 g8
  obtain ⟨V3, hV3⟩ : ∃ V3, V3 = V2.setCell ⟨p + 1 + 1, 8, none⟩ (.string f) := ⟨_, rfl⟩
  first | rw [← hV3] | (have hV3' := hV3; simp only [Nat.add_assoc, Nat.reduceAdd] at hV3'; rw [← hV3'])
  replace hV3 : V3 = V2.setCell ⟨p + 2, 8, none⟩ (.string f) := hV3
  have hk2 : V3.heap[p + 1]? = some (.cells #[.int .i64 0, .string ⟨#[]⟩, .int .i64 0, .slice none 0 0, .int .i64 0, .string ⟨#[]⟩, .int .i64 0, .slice none 0 0, .string ⟨#[]⟩] 43 (0, 0)) := by rw [hV3]; exact (blk_other _ (by omega)).trans HK5.out.1
  have hk3 : V3.heap[p + 2]? = some (.cells #[.int .i64 k3, .string s3, .int .i64 n3, .slice a3 l3 c3, .int .i64 k4, .string s4, .int .i64 n4, .slice a4 l4 c4, .string f] 43 (0, 0)) := by rw [hV3]; simpa using blk_set (i := 8) HK5.out.2 (.string f)
  have HFIN : Hid (∀ d0 d1 d2 d3 d4 d5 d6 d7 d8, Own 41 (set9 V3 (p + 1) d0 d1 d2 d3 d4 d5 d6 d7 d8) H (.agg #[.int .i64 k3, .string s3, .int .i64 n3, .slice a3 l3 c3]) F ∧ Own 41 (set9 V3 (p + 1) d0 d1 d2 d3 d4 d5 d6 d7 d8) B (.agg #[.int .i64 k4, .string s4, .int .i64 n4, .slice a4 l4 c4]) G ∧
      (∀ x ∈ F, p ≤ x) ∧ (∀ x ∈ G, p ≤ x) ∧ F.Nodup ∧ G.Nodup ∧ (∀ x ∈ G, x ∉ F) ∧ Below p w (set9 V3 (p + 1) d0 d1 d2 d3 d4 d5 d6 d7 d8)) := fun d0 d1 d2 d3 d4 d5 d6 d7 d8 =>
    ⟨Own.keep _ _ _ HO3.out fun x hx => (blk9_other (by have := HF1.out.1 x hx; omega)).trans (by rw [hV3]; exact blk_other _ (by have := HF1.out.1 x hx; omega)), Own.keep _ _ _ HO4.out fun x hx => (blk9_other (by have := HG.out.1 x hx; have := HP1.out; omega)).trans (by rw [hV3]; exact blk_other _ (by have := HG.out.1 x hx; have := HP1.out; omega)), fun x hx => by have := HF1.out.1 x hx; omega, fun x hx => by have := HG.out.1 x hx; have := HP1.out; omega, HF1.out.2, HG.out.2, fun x hx h => by have := HG.out.1 x hx; have := HS1.out x h; omega, blk9_below (by rw [hV3]; exact below_set HV2.out (by omega) _) (by omega)⟩
  have HZ : Hid _ := hk2
  clear hV3
  obtain ⟨⟨z0, z1, z2, z3, z4, z5, z6, z7, z8⟩, _⟩ := blk9 hk3
  obtain ⟨⟨cc0, cc1, cc2, cc3, cc4, cc5, cc6, cc7, cc8⟩, g0, g1, g2, g3, g4, g5, g6, g7, g8⟩ := blk9 hk2
  clear hk2 hk3
  go_wp2
  refine bodyPost_ret_by (results_cell_row rfl _ _ (p + 1) 43 _ (0, 0) _ rfl (blk9_set HZ.out) Tryz.underlying43 rfl (by kernel_rfl)) rfl ?_
  rw [← HPP.out]
  exact ⟨_, _, _, _, _, _, _, _, _, _, _, _, F, G, rfl, HFIN.out _ _ _ _ _ _ _ _ _⟩
end Go.Proofs.YtmhmlkdoaojimapGreatDoor

/- A row of clauses in memory, and a row of strings. -/
namespace Go.Proofs.YtmhmlkdoaojimapGreatDoor
open Go.RowKit

/-- a clause: two terms and a text -/
structure Cla where
  h : Tm
  b : Tm
  f : ByteArray
def Cla.wt (c : Cla) : Nat := c.h.wt + c.b.wt + c.f.size
def claWts : List Cla → Nat
  | [] => 0
  | c :: cs => c.wt + claWts cs
theorem claWts_append (a b : List Cla) : claWts (a ++ b) = claWts a + claWts b := by
  induction a with
  | nil => simp [claWts]
  | cons c cs ih => simp only [List.cons_append, claWts, ih]; omega

/-- a clause lies at a place, nine cells -/
def ClaAt (w : World) (c : Cla) (b off : Nat) : Prop :=
  ∃ k1 s1 n1 a1 l1 m1 k2 s2 n2 a2 l2 m2, w.cell? ⟨b, off, none⟩ = some (.int .i64 k1) ∧ w.cell? ⟨b, off + 1, none⟩ = some (.string s1) ∧ w.cell? ⟨b, off + 2, none⟩ = some (.int .i64 n1) ∧ w.cell? ⟨b, off + 3, none⟩ = some (.slice a1 l1 m1) ∧
    w.cell? ⟨b, off + 4, none⟩ = some (.int .i64 k2) ∧ w.cell? ⟨b, off + 5, none⟩ = some (.string s2) ∧ w.cell? ⟨b, off + 6, none⟩ = some (.int .i64 n2) ∧ w.cell? ⟨b, off + 7, none⟩ = some (.slice a2 l2 m2) ∧ w.cell? ⟨b, off + 8, none⟩ = some (.string c.f) ∧
    c.f.size ≤ maxLen ∧ TmIn w c.h (.agg #[.int .i64 k1, .string s1, .int .i64 n1, .slice a1 l1 m1]) ∧ TmIn w c.b (.agg #[.int .i64 k2, .string s2, .int .i64 n2, .slice a2 l2 m2])
theorem ClaAt.keep {w w' : World} {c : Cla} {b off : Nat} (h : ClaAt w c b off) (hb : Below w.heap.size w w') : ClaAt w' c b off := by
  obtain ⟨k1, s1, n1, a1, l1, m1, k2, s2, n2, a2, l2, m2, h0, h1, h2, h3, h4, h5, h6, h7, h8, hf, i1, i2⟩ := h
  exact ⟨k1, s1, n1, a1, l1, m1, k2, s2, n2, a2, l2, m2, cell_keep h0 hb, cell_keep h1 hb, cell_keep h2 hb, cell_keep h3 hb, cell_keep h4 hb, cell_keep h5 hb, cell_keep h6 hb, cell_keep h7 hb, cell_keep h8 hb, hf, TmIn.keep hb _ _ i1, TmIn.keep hb _ _ i2⟩

/-- a slice of clauses -/
def ClsIn (w : World) (cs : List Cla) (v : Value) : Prop :=
  ∃ ao cap, v = .slice ao cs.length cap ∧ cs.length ≤ cap ∧ cap ≤ maxLen ∧ (cs ≠ [] → ∃ b off, ao = some ⟨b, off, none⟩ ∧ ∀ j (hj : j < cs.length), ClaAt w cs[j] b (off + j * 9))
theorem ClsIn.keep {w w' : World} {cs : List Cla} {v : Value} (h : ClsIn w cs v) (hb : Below w.heap.size w w') : ClsIn w' cs v := by
  obtain ⟨ao, cap, rfl, h1, h2, h3⟩ := h
  refine ⟨ao, cap, rfl, h1, h2, fun hne => ?_⟩
  obtain ⟨b, off, e, hr⟩ := h3 hne
  exact ⟨b, off, e, fun j hj => (hr j hj).keep hb⟩

/-- a slice of strings -/
def SsIn (w : World) (xs : List ByteArray) (v : Value) : Prop :=
  ∃ ao cap, v = .slice ao xs.length cap ∧ xs.length ≤ cap ∧ cap ≤ maxLen ∧ (xs ≠ [] → ∃ b off, ao = some ⟨b, off, none⟩ ∧ ∀ j (hj : j < xs.length), w.cell? ⟨b, off + j, none⟩ = some (.string xs[j]) ∧ xs[j].size ≤ maxLen)
theorem SsIn.keep {w w' : World} {xs : List ByteArray} {v : Value} (h : SsIn w xs v) (hb : Below w.heap.size w w') : SsIn w' xs v := by
  obtain ⟨ao, cap, rfl, h1, h2, h3⟩ := h
  refine ⟨ao, cap, rfl, h1, h2, fun hne => ?_⟩
  obtain ⟨b, off, e, hr⟩ := h3 hne
  exact ⟨b, off, e, fun j hj => ⟨cell_keep (hr j hj).1 hb, (hr j hj).2⟩⟩
def strWts : List ByteArray → Nat
  | [] => 0
  | x :: xs => x.size + strWts xs
theorem strWts_append (a b : List ByteArray) : strWts (a ++ b) = strWts a + strWts b := by
  induction a with
  | nil => simp [strWts]
  | cons c cs ih => simp only [List.cons_append, strWts, ih]; omega
end Go.Proofs.YtmhmlkdoaojimapGreatDoor
