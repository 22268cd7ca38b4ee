/- laws.heldDb. -/
import Derived.Test.YtmhmlkdoaojimapGreatDoorDbMk
import Derived.Test.YtmhmlkdoaojimapGreatDoorStrCH
namespace Go.Proofs.YtmhmlkdoaojimapGreatDoor
open Go.RowKit

set_option maxRecDepth 20000 in
theorem held_db (cs : List Cla) (n : Nat) (w : World) (sl ss : Value) (c : Nat) (h : ClsIn w (markCs cs c) sl) (hs : w.ownsRow 0 9 1 ss n (strsV (marksC (c + claNs cs) n))) (hc : 0 < c) (hcm : c + claNs cs ≤ 1000000000) (hl : n ≤ 1100000) :
    Calls Tryz.prog 14 #[.agg #[sl, ss], .int .i64 (c : Int)] w fun e w' => e = .returned (.int .i64 ((c + claNs cs + n : Nat) : Int)) ∧ Below w.heap.size w w' := by
  obtain ⟨W, hW⟩ : ∃ W, W = w.alloc (.cells #[sl, ss] 35) := ⟨_, rfl⟩
  have bW : Below w.heap.size w W := by rw [hW]; exact (Below.refl _ _).alloc (Nat.le_refl _) _
  have k1 : W.heap[w.heap.size]? = some (.cells #[sl, ss] 35 (0, 0)) := by rw [hW]; exact alloc_at _ _ rfl
  have HC : Hid (∀ w1, Below W.heap.size W w1 → w1.heap[w.heap.size]? = some (.cells #[sl, ss] 35 (0, 0))) := fun w1 hb => (hb.block _ (Array.getElem?_eq_some_iff.1 k1).1).trans k1
  have HM1 : Hid _ := held_clauses cs W sl c (h.keep bW) hc (by omega)
  have HM2 : Hid (∀ w1, Below W.heap.size W w1 → Calls Tryz.prog 33 #[ss, .int .i64 ((c + claNs cs : Nat) : Int)] w1 fun e w' => e = .returned (.int .i64 ((c + claNs cs + n : Nat) : Int)) ∧ Below w1.heap.size w1 w') := fun w1 hb =>
    heldS_from (c + claNs cs) n ss w1 (by omega) hl (owns_below (owns_below hs bW) hb)
  have HBW : Hid (Below w.heap.size w W) := bW
  obtain ⟨a1, p1, rfl, -⟩ := h
  obtain ⟨a3, l3, p3, rfl⟩ := owns_shape hs
  have n1 : ¬ ((c + claNs cs + n : Nat) : Int) < 0 := by omega
  have n2 : ¬ ((c + claNs cs : Nat) : Int) < 0 := by omega
  clear hs k1 bW hcm hl hc
  generalize c + claNs cs + n = m2 at *
  generalize c + claNs cs = m1 at *
  go_enter Tryz.func14, Tryz.ntmps14
  go_upto_region 1 with fail
  rw [← hW]
  clear hW
  have y0 := blk_cell (i := 0) (HC.out W (Below.refl _ _)) (by simp)
  go_upto_region 4 with (go_at_call 32; refine (Calls.mono HM1.out ?_); rintro e w1 ⟨rfl, hb⟩; have HB1 : Hid (Below W.heap.size W w1) := hb; clear hb)
  clear y0
  have y1 := blk_cell (i := 1) (HC.out w1 HB1.out) (by simp)
  have HM3 : Hid _ := HM2.out w1 HB1.out
  go_wp2_with (go_at_call 33; refine (Calls.mono HM3.out ?_); rintro e w2 ⟨rfl, hb⟩; have HB2 : Hid (Below W.heap.size W w2) := HB1.out.trans (hb.mono HB1.out.size); clear hb)
  go_ret
  exact ⟨rfl, HBW.out.trans (HB2.out.mono HBW.out.size)⟩
end Go.Proofs.YtmhmlkdoaojimapGreatDoor
