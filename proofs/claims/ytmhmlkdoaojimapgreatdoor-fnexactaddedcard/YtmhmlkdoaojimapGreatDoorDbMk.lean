/- laws.markDb, laws.heldDb. -/
import Derived.Test.YtmhmlkdoaojimapGreatDoorClsMk
import Derived.Test.YtmhmlkdoaojimapGreatDoorClsHeld
import Derived.Test.YtmhmlkdoaojimapGreatDoorStrC
import Derived.Test.YtmhmlkdoaojimapGreatDoorMrg6
namespace Go.Proofs.YtmhmlkdoaojimapGreatDoor
open Go.RowKit

set_option maxRecDepth 20000 in
theorem mark_db (cs : List Cla) (xs : List (List UInt8)) (w : World) (sl ss : Value) (F : List Nat) (c : Nat) (h : OwnClS 43 41 w cs sl F) (hnd : F.Nodup) (hs : w.ownsRow 0 9 1 ss xs.length (strsV xs)) (hd : ∀ f ∈ F, f ∉ ss.ownBlock.toList)
    (hc : 0 < c) (hcm : c + claNs cs ≤ 1000000000) (hl : xs.length ≤ 1100000) :
    Calls Tryz.prog 12 #[.agg #[sl, ss], .int .i64 (c : Int)] w fun e w' => e = .returned (.int .i64 ((c + claNs cs + xs.length : Nat) : Int)) ∧ OwnClS 43 41 w' (markCs cs c) sl F ∧ w'.ownsRow 0 9 1 ss xs.length (strsV (marksC (c + claNs cs) xs.length)) ∧ Out (F ++ ss.ownBlock.toList) w w' := by
  obtain ⟨W, hW⟩ : ∃ W, W = w.alloc (.cells #[sl, ss] 35) := ⟨_, rfl⟩
  have bW : Below w.heap.size w W := by rw [hW]; exact (Below.refl _ _).alloc (Nat.le_refl _) _
  have lW : W.heap.size = w.heap.size + 1 := by rw [hW]; simp
  have k1 : W.heap[w.heap.size]? = some (.cells #[sl, ss] 35 (0, 0)) := by rw [hW]; exact alloc_at _ _ rfl
  have hlt := OwnClS.lt h
  have ho : ∀ f ∈ ss.ownBlock.toList, f < w.heap.size := fun f hf => by
    rcases hs.2 with ⟨rfl, _⟩ | ⟨g, cap, cur, rfl, _, hh, _⟩
    · simp [Value.ownBlock] at hf
    · simp [Value.ownBlock] at hf
      subst hf
      exact (Array.getElem?_eq_some_iff.1 hh).1
  have HM1 : Hid _ := mark_clauses cs W sl F c (OwnClS.keep h fun f hf => bW.block f (hlt f hf)) hnd hc (by omega)
  have HC : Hid (∀ w1, Out F W w1 → w1.heap[w.heap.size]? = some (.cells #[sl, ss] 35 (0, 0))) := fun w1 o => (o.block _ (by omega) fun hx => by have := hlt _ hx; omega).trans k1
  have HM2 : Hid (∀ w1, Out F W w1 → Calls Tryz.prog 30 #[ss, .int .i64 ((c + claNs cs : Nat) : Int)] w1 fun e w' => e = .returned (.int .i64 ((c + claNs cs + xs.length : Nat) : Int)) ∧ Out ss.ownBlock.toList w1 w' ∧ w'.ownsRow 0 9 1 ss xs.length (strsV (marksC (c + claNs cs) xs.length))) := fun w1 o => by
    refine markS_from (c + claNs cs) 0 xs ss w1 (by omega) hl ⟨hs.1, ?_⟩
    rcases hs.2 with h2 | ⟨g, cap, cur, rfl, h2, h3, h4⟩
    · exact Or.inl h2
    · have hg : g < w.heap.size := (Array.getElem?_eq_some_iff.1 h3).1
      exact Or.inr ⟨g, cap, cur, rfl, h2, ((o.block g (by omega) fun hx => hd g hx (by simp [Value.ownBlock])).trans (bW.block g hg)).trans h3, h4⟩
  have HX : Hid (∀ w1 w2, Out F W w1 → OwnClS 43 41 w1 (markCs cs c) sl F → Out ss.ownBlock.toList w1 w2 → OwnClS 43 41 w2 (markCs cs c) sl F ∧ Out (F ++ ss.ownBlock.toList) w w2) := fun w1 w2 q1 q2 q3 =>
    ⟨OwnClS.keep q2 fun f hf => q3.block f (OwnClS.lt q2 f hf) (hd f hf), (Out.of_below bW).trans ((q1.mono fun x hx => List.mem_append_left _ hx).trans (q3.mono fun x hx => List.mem_append_right _ hx))⟩
  obtain ⟨a1, p1, rfl⟩ := ownClS_shape h
  obtain ⟨a3, l3, p3, rfl⟩ := owns_shape hs
  clear h hs hd hlt ho k1 bW lW hcm hl hc hnd
  generalize c + claNs cs + xs.length = m2 at *
  generalize c + claNs cs = m1 at *
  go_enter Tryz.func12, Tryz.ntmps12
  go_upto_region 1 with fail
  rw [← hW]
  clear hW
  have y0 := blk_cell (i := 0) (HC.out W (Out.refl _ _)) (by simp)
  go_upto_region 2 with (go_at_call 29; refine (Calls.mono HM1.out ?_); rintro e w1 ⟨rfl, ho, hu⟩; have HO1 : Hid (OwnClS _ _ _ _ _ _) := ho; have HU1 : Hid (Out F W w1) := hu; clear ho hu)
  clear y0
  have y1 := blk_cell (i := 1) (HC.out w1 HU1.out) (by simp)
  have HM3 : Hid _ := HM2.out w1 HU1.out
  go_wp2_with (go_at_call 30; refine (Calls.mono HM3.out ?_); rintro e w2 ⟨rfl, hu, ho⟩; have HO2 : Hid _ := ho; have HU2 : Hid (Out _ w1 w2) := hu; clear ho hu)
  go_ret
  have := HX.out w1 w2 HU1.out HO1.out HU2.out
  exact ⟨rfl, this.1, HO2.out, this.2⟩
end Go.Proofs.YtmhmlkdoaojimapGreatDoor
