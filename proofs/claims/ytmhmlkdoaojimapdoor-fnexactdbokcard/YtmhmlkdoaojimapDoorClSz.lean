/- laws.szClause. -/
import Derived.Test.YtmhmlkdoaojimapDoorTmSz
import Derived.Test.YtmhmlkdoaojimapDoorMrg8
import Derived.Deep.DeepCutAuto
namespace Go.Proofs.YtmhmlkdoaojimapDoor
open Go.RowKit

set_option maxHeartbeats 4000000 in
theorem sz_clause (H B : Tm) (f : ByteArray) (w : World) (left : Nat) (k1 s1 n1 a1 l1 c1 k2 s2 n2 a2 l2 c2) (h1 : TmIn w H (.agg #[.int .i64 k1, .string s1, .int .i64 n1, .slice a1 l1 c1])) (h2 : TmIn w B (.agg #[.int .i64 k2, .string s2, .int .i64 n2, .slice a2 l2 c2])) (hf : f.size ≤ maxLen) (hl : left ≤ 1048576) :
    Calls Tryd.prog 57 #[.agg #[.int .i64 k1, .string s1, .int .i64 n1, .slice a1 l1 c1, .int .i64 k2, .string s2, .int .i64 n2, .slice a2 l2 c2, .string f], .int .i64 (left : Int)] w fun e w' => e = .returned (.int .i64 (szR (H.wt + B.wt + f.size) left)) ∧ Below w.heap.size w w' := by
  unfold maxLen at hf
  obtain ⟨W, hW⟩ : ∃ W, W = w.alloc (.cells #[.int .i64 k1, .string s1, .int .i64 n1, .slice a1 l1 c1, .int .i64 k2, .string s2, .int .i64 n2, .slice a2 l2 c2, .string f] 88) := ⟨_, rfl⟩
  have bW : Below w.heap.size w W := by rw [hW]; exact (Below.refl _ _).alloc (Nat.le_refl _) _
  have k1' : W.heap[w.heap.size]? = some (.cells #[.int .i64 k1, .string s1, .int .i64 n1, .slice a1 l1 c1, .int .i64 k2, .string s2, .int .i64 n2, .slice a2 l2 c2, .string f] 88 (0, 0)) := by rw [hW]; exact heap_alloc_new w _
  have HK : Hid (∀ w1, Below W.heap.size W w1 → w1.heap[w.heap.size]? = some (.cells #[.int .i64 k1, .string s1, .int .i64 n1, .slice a1 l1 c1, .int .i64 k2, .string s2, .int .i64 n2, .slice a2 l2 c2, .string f] 88 (0, 0))) := fun w1 hb => (hb.block _ (Array.getElem?_eq_some_iff.1 k1').1).trans k1'
  have HBW : Hid (Below w.heap.size w W) := bW
  have HS1 := sz_term H W _ left (TmIn.keep bW _ _ h1) hl
  have HS2 : ∀ (w1 : World) (l : Nat), Below W.heap.size W w1 → l ≤ 1048576 → Calls Tryd.prog 20 #[.agg #[.int .i64 k2, .string s2, .int .i64 n2, .slice a2 l2 c2], .int .i64 (l : Int)] w1 fun e w' => e = .returned (.int .i64 (szR B.wt l)) ∧ Below w1.heap.size w1 w' := fun w1 l hb hl2 => sz_term B w1 _ l (TmIn.keep hb _ _ (TmIn.keep bW _ _ h2)) hl2
  clear h1 h2 bW k1'
  by_cases c1' : H.wt ≤ left
  · rw [show szR H.wt left = ((left - H.wt : Nat) : Int) from if_pos c1'] at HS1
    obtain ⟨l1, hl1⟩ : ∃ l1, l1 = left - H.wt := ⟨_, rfl⟩
    rw [← hl1] at HS1
    have hn1 : ¬ (l1 : Int) < 0 := by omega
    have HS1' : Hid _ := HS1
    have HS3 : ∀ w1, Below W.heap.size W w1 → _ := fun w1 hb => HS2 w1 l1 hb (by omega)
    by_cases c2' : B.wt ≤ l1
    · rw [show szR B.wt l1 = ((l1 - B.wt : Nat) : Int) from if_pos c2'] at HS3
      obtain ⟨l2, hl2⟩ : ∃ l2, l2 = l1 - B.wt := ⟨_, rfl⟩
      rw [← hl2] at HS3
      have hn2 : ¬ (l2 : Int) < 0 := by omega
      have HS3' : Hid _ := HS3
      have HLL : Hid (l2 ≤ 1048576) := by show _ ≤ _; omega
      have hl2i : (l2 : Int) ≤ 1048576 := by omega
      have hfi : (f.size : Int) ≤ 9223372036854775807 := by omega
      by_cases c3' : f.size ≤ l2
      · have HR : Hid (szR (H.wt + B.wt + f.size) left = (l2 : Int) - f.size) := by
          show _ = _
          rw [show szR (H.wt + B.wt + f.size) left = ((left - (H.wt + B.wt + f.size) : Nat) : Int) from if_pos (by omega)]
          omega
        have hn3 : ¬ (l2 : Int) - f.size < 0 := by omega
        clear HS1 HS2 HS3 c1' c2' c3' hl1 hl2 hl
        rw [HR.out]
        go_enter Tryd.func57, Tryd.ntmps57
        go_upto_region 1 with fail
        rw [← hW]
        clear hW
        obtain ⟨⟨z0, z1, z2, z3, z4, z5, z6, z7, z8⟩, _⟩ := blk9 (HK.out W (Below.refl _ _))
        go_upto_region 4 with (go_at_call 20; refine (Calls.mono HS1'.out ?_); rintro e w1 ⟨rfl, hb⟩; have HB1 : Hid (Below W.heap.size W w1) := hb; clear hb)
        clear z0 z1 z2 z3 z4 z5 z6 z7 z8
        obtain ⟨⟨z0, z1, z2, z3, z4, z5, z6, z7, z8⟩, _⟩ := blk9 (HK.out w1 HB1.out)
        have HS4 : Hid _ := HS3'.out w1 HB1.out
        go_upto_region 7 with (go_at_call 20; refine (Calls.mono HS4.out ?_); rintro e w2 ⟨rfl, hb⟩; have HB2 : Hid (Below W.heap.size W w2) := HB1.out.trans (hb.mono HB1.out.size); clear hb)
        clear z0 z1 z2 z3 z4 z5 z6 z7 z8
        obtain ⟨⟨z0, z1, z2, z3, z4, z5, z6, z7, z8⟩, _⟩ := blk9 (HK.out w2 HB2.out)
        go_wp2
        go_ret
        exact ⟨rfl, HBW.out.trans (HB2.out.mono HBW.out.size)⟩
      · have HR : Hid (szR (H.wt + B.wt + f.size) left = -1) := if_neg (by omega)
        have hn3 : (l2 : Int) - f.size < 0 := by omega
        clear HS1 HS2 HS3 c1' c2' c3' hl1 hl2 hl
        rw [HR.out]
        go_enter Tryd.func57, Tryd.ntmps57
        go_upto_region 1 with fail
        rw [← hW]
        clear hW
        obtain ⟨⟨z0, z1, z2, z3, z4, z5, z6, z7, z8⟩, _⟩ := blk9 (HK.out W (Below.refl _ _))
        go_upto_region 4 with (go_at_call 20; refine (Calls.mono HS1'.out ?_); rintro e w1 ⟨rfl, hb⟩; have HB1 : Hid (Below W.heap.size W w1) := hb; clear hb)
        clear z0 z1 z2 z3 z4 z5 z6 z7 z8
        obtain ⟨⟨z0, z1, z2, z3, z4, z5, z6, z7, z8⟩, _⟩ := blk9 (HK.out w1 HB1.out)
        have HS4 : Hid _ := HS3'.out w1 HB1.out
        go_upto_region 7 with (go_at_call 20; refine (Calls.mono HS4.out ?_); rintro e w2 ⟨rfl, hb⟩; have HB2 : Hid (Below W.heap.size W w2) := HB1.out.trans (hb.mono HB1.out.size); clear hb)
        clear z0 z1 z2 z3 z4 z5 z6 z7 z8
        obtain ⟨⟨z0, z1, z2, z3, z4, z5, z6, z7, z8⟩, _⟩ := blk9 (HK.out w2 HB2.out)
        go_wp2
        go_ret
        exact ⟨rfl, HBW.out.trans (HB2.out.mono HBW.out.size)⟩
    · have HR : Hid (szR (H.wt + B.wt + f.size) left = -1) := if_neg (by omega)
      rw [show szR B.wt l1 = -1 from if_neg c2'] at HS3
      have HS3' : Hid _ := HS3
      clear HS1 HS2 HS3 c1' c2' hl1 hl
      rw [HR.out]
      go_enter Tryd.func57, Tryd.ntmps57
      go_upto_region 1 with fail
      rw [← hW]
      clear hW
      obtain ⟨⟨z0, z1, z2, z3, z4, z5, z6, z7, z8⟩, _⟩ := blk9 (HK.out W (Below.refl _ _))
      go_upto_region 4 with (go_at_call 20; refine (Calls.mono HS1'.out ?_); rintro e w1 ⟨rfl, hb⟩; have HB1 : Hid (Below W.heap.size W w1) := hb; clear hb)
      clear z0 z1 z2 z3 z4 z5 z6 z7 z8
      obtain ⟨⟨z0, z1, z2, z3, z4, z5, z6, z7, z8⟩, _⟩ := blk9 (HK.out w1 HB1.out)
      have HS4 : Hid _ := HS3'.out w1 HB1.out
      go_wp2_with (go_at_call 20; refine (Calls.mono HS4.out ?_); rintro e w2 ⟨rfl, hb⟩; have HB2 : Hid (Below W.heap.size W w2) := HB1.out.trans (hb.mono HB1.out.size); clear hb)
      go_ret
      exact ⟨rfl, HBW.out.trans (HB2.out.mono HBW.out.size)⟩
  · have HR : Hid (szR (H.wt + B.wt + f.size) left = -1) := if_neg (by omega)
    rw [show szR H.wt left = -1 from if_neg c1'] at HS1
    have HS1' : Hid _ := HS1
    clear HS1 HS2 c1' hl
    rw [HR.out]
    go_enter Tryd.func57, Tryd.ntmps57
    go_upto_region 1 with fail
    rw [← hW]
    clear hW
    obtain ⟨⟨z0, z1, z2, z3, z4, z5, z6, z7, z8⟩, _⟩ := blk9 (HK.out W (Below.refl _ _))
    go_wp2_with (go_at_call 20; refine (Calls.mono HS1'.out ?_); rintro e w1 ⟨rfl, hb⟩; have HB1 : Hid (Below W.heap.size W w1) := hb; clear hb)
    go_ret
    exact ⟨rfl, HBW.out.trans (HB1.out.mono HBW.out.size)⟩
end Go.Proofs.YtmhmlkdoaojimapDoor
