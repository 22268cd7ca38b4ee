/- impl.newOp, impl.InfixOf, impl.PrefixOf. -/
import Derived.Test.YtenmhpalpfppmaoGreatDoorMrg5
import Derived.Test.YtenmhpalpfppmaoGreatDoorMrg12
import Derived.Test.YtenmhpalpfppmaoGreatDoorMrg7
namespace Go.Proofs.YtenmhpalpfppmaoGreatDoor
open Go.RowKit

theorem below_heap {w w' : World} (hb : Below w.heap.size w w') {g : Nat} {x : Obj} (h : w.heap[g]? = some x) : w'.heap[g]? = some x := by
  rw [← h]; exact hb.block g (Array.getElem?_eq_some_iff.1 h).1
set_option maxHeartbeats 1000000 in
theorem new_op (s : ByteArray) (a b c : Int) (w : World) (hs : s.size ≤ 1048576) :
    Calls Tryz.prog 54 #[.string s, .int .i64 a, .int .i64 b, .int .i64 c] w fun e w' => e = .returned (.agg #[.string s, .int .i64 a, .int .i64 b, .int .i64 c]) ∧ Below w.heap.size w w' := by
  go_enter Tryz.func54, Tryz.ntmps54
  go_wp2_with (go_at_call 67; refine (clone_any s _ hs).mono ?_; rintro e w1 ⟨rfl, hb⟩; have hh := below_heap hb (heap_alloc_new _ _); obtain ⟨c0, c1, c2, c3, f0, f1, f2, f3⟩ := blk4 hh; have HB : Hid (Below w.heap.size w w1) := ((Below.refl _ _).alloc (Nat.le_refl _) _).trans (hb.mono (by simp)); clear hb)
  refine bodyPost_ret_by (results_cell_row rfl _ _ w.heap.size 44 _ (0, 0) _ rfl (blk4_set hh) Tryz.underlying44 rfl (by kernel_rfl)) rfl ?_
  exact ⟨rfl, blk4_below HB.out (Nat.le_refl _)⟩

set_option maxHeartbeats 8000000 in
theorem i_prefix (s : ByteArray) (w : World) (hs : s.size ≤ 1048576) :
    Calls Tryz.prog 40 #[.string s] w fun e w' => e = .returned (.tuple #[opV (prefixP s), .bool (prefixP s).isSome]) ∧ Below w.heap.size w w' := by
  by_cases h0 : s = ⟨#[58, 45]⟩
  · subst h0
    have HC : Hid _ := fun w => new_op ⟨#[58, 45]⟩ 1200 0 1199 w hs
    clear hs
    go_enter Tryz.func40, Tryz.ntmps40
    go_wp2_with (go_at_call 54; refine (HC.out _).mono ?_; rintro e w1 ⟨rfl, hb⟩; have hh := below_heap hb (heap_alloc_new _ _); obtain ⟨c0, c1, c2, c3, f0, f1, f2, f3⟩ := blk4 hh; have HB : Hid (Below w.heap.size w w1) := ((Below.refl _ _).alloc (Nat.le_refl _) _).trans (hb.mono (by simp)); clear hb)
    refine bodyPost_ret_by (results_ct2 rfl _ _ w.heap.size 44 _ (0, 0) _ rfl (blk4_set hh) Tryz.underlying44 rfl (by kernel_rfl)) rfl ?_
    exact ⟨rfl, blk4_below HB.out (Nat.le_refl _)⟩
  by_cases h1 : s = ⟨#[92, 43]⟩
  · subst h1
    have HC : Hid _ := fun w => new_op ⟨#[92, 43]⟩ 900 0 900 w hs
    clear hs
    go_enter Tryz.func40, Tryz.ntmps40
    go_wp2_with (go_at_call 54; refine (HC.out _).mono ?_; rintro e w1 ⟨rfl, hb⟩; have hh := below_heap hb (heap_alloc_new _ _); obtain ⟨c0, c1, c2, c3, f0, f1, f2, f3⟩ := blk4 hh; have HB : Hid (Below w.heap.size w w1) := ((Below.refl _ _).alloc (Nat.le_refl _) _).trans (hb.mono (by simp)); clear hb)
    refine bodyPost_ret_by (results_ct2 rfl _ _ w.heap.size 44 _ (0, 0) _ rfl (blk4_set hh) Tryz.underlying44 rfl (by kernel_rfl)) rfl ?_
    exact ⟨rfl, blk4_below HB.out (Nat.le_refl _)⟩
  by_cases h2 : s = ⟨#[45]⟩
  · subst h2
    have HC : Hid _ := fun w => new_op ⟨#[45]⟩ 200 0 200 w hs
    clear hs
    go_enter Tryz.func40, Tryz.ntmps40
    go_wp2_with (go_at_call 54; refine (HC.out _).mono ?_; rintro e w1 ⟨rfl, hb⟩; have hh := below_heap hb (heap_alloc_new _ _); obtain ⟨c0, c1, c2, c3, f0, f1, f2, f3⟩ := blk4 hh; have HB : Hid (Below w.heap.size w w1) := ((Below.refl _ _).alloc (Nat.le_refl _) _).trans (hb.mono (by simp)); clear hb)
    refine bodyPost_ret_by (results_ct2 rfl _ _ w.heap.size 44 _ (0, 0) _ rfl (blk4_set hh) Tryz.underlying44 rfl (by kernel_rfl)) rfl ?_
    exact ⟨rfl, blk4_below HB.out (Nat.le_refl _)⟩
  have HN : Hid (prefixP s = none) := by
    show _ = _
    unfold prefixP
    split <;> first | rfl | skip
    all_goals
      rename_i hh
      exfalso
      have hs : s = ⟨s.data.toList.toArray⟩ := by simp
      rw [hh] at hs
      first | exact h0 hs | exact h1 hs | exact h2 hs
  have e0 : (s.toList == [58, 45]) = false := toL_ne (l := [58, 45]) h0
  have e1 : (s.toList == [92, 43]) = false := toL_ne (l := [92, 43]) h1
  have e2 : (s.toList == [45]) = false := toL_ne (l := [45]) h2
  clear hs h0 h1 h2
  go_enter Tryz.func40, Tryz.ntmps40
  go_wp2
  refine bodyPost_ret_by (results_ct2 rfl _ _ w.heap.size 44 _ (0, 0) _ rfl (heap_alloc_new _ _) Tryz.underlying44 rfl (by kernel_rfl)) rfl ?_
  exact ⟨by rw [HN.out]; rfl, (Below.refl _ _).alloc (Nat.le_refl _) _⟩

set_option maxHeartbeats 8000000 in
theorem i_infix (s : ByteArray) (w : World) (hs : s.size ≤ 1048576) :
    Calls Tryz.prog 39 #[.string s] w fun e w' => e = .returned (.tuple #[opV (infixP s), .bool (infixP s).isSome]) ∧ Below w.heap.size w w' := by
  by_cases h0 : s = ⟨#[58, 45]⟩
  · subst h0
    have HC : Hid _ := fun w => new_op ⟨#[58, 45]⟩ 1200 1199 1199 w hs
    clear hs
    go_enter Tryz.func39, Tryz.ntmps39
    go_wp2_with (go_at_call 54; refine (HC.out _).mono ?_; rintro e w1 ⟨rfl, hb⟩; have hh := below_heap hb (heap_alloc_new _ _); obtain ⟨c0, c1, c2, c3, f0, f1, f2, f3⟩ := blk4 hh; have HB : Hid (Below w.heap.size w w1) := ((Below.refl _ _).alloc (Nat.le_refl _) _).trans (hb.mono (by simp)); clear hb)
    refine bodyPost_ret_by (results_ct2 rfl _ _ w.heap.size 44 _ (0, 0) _ rfl (blk4_set hh) Tryz.underlying44 rfl (by kernel_rfl)) rfl ?_
    exact ⟨rfl, blk4_below HB.out (Nat.le_refl _)⟩
  by_cases h1 : s = ⟨#[45, 45, 62]⟩
  · subst h1
    have HC : Hid _ := fun w => new_op ⟨#[45, 45, 62]⟩ 1200 1199 1199 w hs
    clear hs
    go_enter Tryz.func39, Tryz.ntmps39
    go_wp2_with (go_at_call 54; refine (HC.out _).mono ?_; rintro e w1 ⟨rfl, hb⟩; have hh := below_heap hb (heap_alloc_new _ _); obtain ⟨c0, c1, c2, c3, f0, f1, f2, f3⟩ := blk4 hh; have HB : Hid (Below w.heap.size w w1) := ((Below.refl _ _).alloc (Nat.le_refl _) _).trans (hb.mono (by simp)); clear hb)
    refine bodyPost_ret_by (results_ct2 rfl _ _ w.heap.size 44 _ (0, 0) _ rfl (blk4_set hh) Tryz.underlying44 rfl (by kernel_rfl)) rfl ?_
    exact ⟨rfl, blk4_below HB.out (Nat.le_refl _)⟩
  by_cases h2 : s = ⟨#[59]⟩
  · subst h2
    have HC : Hid _ := fun w => new_op ⟨#[59]⟩ 1100 1099 1100 w hs
    clear hs
    go_enter Tryz.func39, Tryz.ntmps39
    go_wp2_with (go_at_call 54; refine (HC.out _).mono ?_; rintro e w1 ⟨rfl, hb⟩; have hh := below_heap hb (heap_alloc_new _ _); obtain ⟨c0, c1, c2, c3, f0, f1, f2, f3⟩ := blk4 hh; have HB : Hid (Below w.heap.size w w1) := ((Below.refl _ _).alloc (Nat.le_refl _) _).trans (hb.mono (by simp)); clear hb)
    refine bodyPost_ret_by (results_ct2 rfl _ _ w.heap.size 44 _ (0, 0) _ rfl (blk4_set hh) Tryz.underlying44 rfl (by kernel_rfl)) rfl ?_
    exact ⟨rfl, blk4_below HB.out (Nat.le_refl _)⟩
  by_cases h3 : s = ⟨#[45, 62]⟩
  · subst h3
    have HC : Hid _ := fun w => new_op ⟨#[45, 62]⟩ 1050 1049 1050 w hs
    clear hs
    go_enter Tryz.func39, Tryz.ntmps39
    go_wp2_with (go_at_call 54; refine (HC.out _).mono ?_; rintro e w1 ⟨rfl, hb⟩; have hh := below_heap hb (heap_alloc_new _ _); obtain ⟨c0, c1, c2, c3, f0, f1, f2, f3⟩ := blk4 hh; have HB : Hid (Below w.heap.size w w1) := ((Below.refl _ _).alloc (Nat.le_refl _) _).trans (hb.mono (by simp)); clear hb)
    refine bodyPost_ret_by (results_ct2 rfl _ _ w.heap.size 44 _ (0, 0) _ rfl (blk4_set hh) Tryz.underlying44 rfl (by kernel_rfl)) rfl ?_
    exact ⟨rfl, blk4_below HB.out (Nat.le_refl _)⟩
  by_cases h4 : s = ⟨#[44]⟩
  · subst h4
    have HC : Hid _ := fun w => new_op ⟨#[44]⟩ 1000 999 1000 w hs
    clear hs
    go_enter Tryz.func39, Tryz.ntmps39
    go_wp2_with (go_at_call 54; refine (HC.out _).mono ?_; rintro e w1 ⟨rfl, hb⟩; have hh := below_heap hb (heap_alloc_new _ _); obtain ⟨c0, c1, c2, c3, f0, f1, f2, f3⟩ := blk4 hh; have HB : Hid (Below w.heap.size w w1) := ((Below.refl _ _).alloc (Nat.le_refl _) _).trans (hb.mono (by simp)); clear hb)
    refine bodyPost_ret_by (results_ct2 rfl _ _ w.heap.size 44 _ (0, 0) _ rfl (blk4_set hh) Tryz.underlying44 rfl (by kernel_rfl)) rfl ?_
    exact ⟨rfl, blk4_below HB.out (Nat.le_refl _)⟩
  by_cases h5 : s = ⟨#[61]⟩
  · subst h5
    have HC : Hid _ := fun w => new_op ⟨#[61]⟩ 700 699 699 w hs
    clear hs
    go_enter Tryz.func39, Tryz.ntmps39
    go_wp2_with (go_at_call 54; refine (HC.out _).mono ?_; rintro e w1 ⟨rfl, hb⟩; have hh := below_heap hb (heap_alloc_new _ _); obtain ⟨c0, c1, c2, c3, f0, f1, f2, f3⟩ := blk4 hh; have HB : Hid (Below w.heap.size w w1) := ((Below.refl _ _).alloc (Nat.le_refl _) _).trans (hb.mono (by simp)); clear hb)
    refine bodyPost_ret_by (results_ct2 rfl _ _ w.heap.size 44 _ (0, 0) _ rfl (blk4_set hh) Tryz.underlying44 rfl (by kernel_rfl)) rfl ?_
    exact ⟨rfl, blk4_below HB.out (Nat.le_refl _)⟩
  by_cases h6 : s = ⟨#[92, 61]⟩
  · subst h6
    have HC : Hid _ := fun w => new_op ⟨#[92, 61]⟩ 700 699 699 w hs
    clear hs
    go_enter Tryz.func39, Tryz.ntmps39
    go_wp2_with (go_at_call 54; refine (HC.out _).mono ?_; rintro e w1 ⟨rfl, hb⟩; have hh := below_heap hb (heap_alloc_new _ _); obtain ⟨c0, c1, c2, c3, f0, f1, f2, f3⟩ := blk4 hh; have HB : Hid (Below w.heap.size w w1) := ((Below.refl _ _).alloc (Nat.le_refl _) _).trans (hb.mono (by simp)); clear hb)
    refine bodyPost_ret_by (results_ct2 rfl _ _ w.heap.size 44 _ (0, 0) _ rfl (blk4_set hh) Tryz.underlying44 rfl (by kernel_rfl)) rfl ?_
    exact ⟨rfl, blk4_below HB.out (Nat.le_refl _)⟩
  by_cases h7 : s = ⟨#[61, 61]⟩
  · subst h7
    have HC : Hid _ := fun w => new_op ⟨#[61, 61]⟩ 700 699 699 w hs
    clear hs
    go_enter Tryz.func39, Tryz.ntmps39
    go_wp2_with (go_at_call 54; refine (HC.out _).mono ?_; rintro e w1 ⟨rfl, hb⟩; have hh := below_heap hb (heap_alloc_new _ _); obtain ⟨c0, c1, c2, c3, f0, f1, f2, f3⟩ := blk4 hh; have HB : Hid (Below w.heap.size w w1) := ((Below.refl _ _).alloc (Nat.le_refl _) _).trans (hb.mono (by simp)); clear hb)
    refine bodyPost_ret_by (results_ct2 rfl _ _ w.heap.size 44 _ (0, 0) _ rfl (blk4_set hh) Tryz.underlying44 rfl (by kernel_rfl)) rfl ?_
    exact ⟨rfl, blk4_below HB.out (Nat.le_refl _)⟩
  by_cases h8 : s = ⟨#[105, 115]⟩
  · subst h8
    have HC : Hid _ := fun w => new_op ⟨#[105, 115]⟩ 700 699 699 w hs
    clear hs
    go_enter Tryz.func39, Tryz.ntmps39
    go_wp2_with (go_at_call 54; refine (HC.out _).mono ?_; rintro e w1 ⟨rfl, hb⟩; have hh := below_heap hb (heap_alloc_new _ _); obtain ⟨c0, c1, c2, c3, f0, f1, f2, f3⟩ := blk4 hh; have HB : Hid (Below w.heap.size w w1) := ((Below.refl _ _).alloc (Nat.le_refl _) _).trans (hb.mono (by simp)); clear hb)
    refine bodyPost_ret_by (results_ct2 rfl _ _ w.heap.size 44 _ (0, 0) _ rfl (blk4_set hh) Tryz.underlying44 rfl (by kernel_rfl)) rfl ?_
    exact ⟨rfl, blk4_below HB.out (Nat.le_refl _)⟩
  by_cases h9 : s = ⟨#[60]⟩
  · subst h9
    have HC : Hid _ := fun w => new_op ⟨#[60]⟩ 700 699 699 w hs
    clear hs
    go_enter Tryz.func39, Tryz.ntmps39
    go_wp2_with (go_at_call 54; refine (HC.out _).mono ?_; rintro e w1 ⟨rfl, hb⟩; have hh := below_heap hb (heap_alloc_new _ _); obtain ⟨c0, c1, c2, c3, f0, f1, f2, f3⟩ := blk4 hh; have HB : Hid (Below w.heap.size w w1) := ((Below.refl _ _).alloc (Nat.le_refl _) _).trans (hb.mono (by simp)); clear hb)
    refine bodyPost_ret_by (results_ct2 rfl _ _ w.heap.size 44 _ (0, 0) _ rfl (blk4_set hh) Tryz.underlying44 rfl (by kernel_rfl)) rfl ?_
    exact ⟨rfl, blk4_below HB.out (Nat.le_refl _)⟩
  by_cases h10 : s = ⟨#[61, 58, 61]⟩
  · subst h10
    have HC : Hid _ := fun w => new_op ⟨#[61, 58, 61]⟩ 700 699 699 w hs
    clear hs
    go_enter Tryz.func39, Tryz.ntmps39
    go_wp2_with (go_at_call 54; refine (HC.out _).mono ?_; rintro e w1 ⟨rfl, hb⟩; have hh := below_heap hb (heap_alloc_new _ _); obtain ⟨c0, c1, c2, c3, f0, f1, f2, f3⟩ := blk4 hh; have HB : Hid (Below w.heap.size w w1) := ((Below.refl _ _).alloc (Nat.le_refl _) _).trans (hb.mono (by simp)); clear hb)
    refine bodyPost_ret_by (results_ct2 rfl _ _ w.heap.size 44 _ (0, 0) _ rfl (blk4_set hh) Tryz.underlying44 rfl (by kernel_rfl)) rfl ?_
    exact ⟨rfl, blk4_below HB.out (Nat.le_refl _)⟩
  by_cases h11 : s = ⟨#[43]⟩
  · subst h11
    have HC : Hid _ := fun w => new_op ⟨#[43]⟩ 500 500 499 w hs
    clear hs
    go_enter Tryz.func39, Tryz.ntmps39
    go_wp2_with (go_at_call 54; refine (HC.out _).mono ?_; rintro e w1 ⟨rfl, hb⟩; have hh := below_heap hb (heap_alloc_new _ _); obtain ⟨c0, c1, c2, c3, f0, f1, f2, f3⟩ := blk4 hh; have HB : Hid (Below w.heap.size w w1) := ((Below.refl _ _).alloc (Nat.le_refl _) _).trans (hb.mono (by simp)); clear hb)
    refine bodyPost_ret_by (results_ct2 rfl _ _ w.heap.size 44 _ (0, 0) _ rfl (blk4_set hh) Tryz.underlying44 rfl (by kernel_rfl)) rfl ?_
    exact ⟨rfl, blk4_below HB.out (Nat.le_refl _)⟩
  by_cases h12 : s = ⟨#[45]⟩
  · subst h12
    have HC : Hid _ := fun w => new_op ⟨#[45]⟩ 500 500 499 w hs
    clear hs
    go_enter Tryz.func39, Tryz.ntmps39
    go_wp2_with (go_at_call 54; refine (HC.out _).mono ?_; rintro e w1 ⟨rfl, hb⟩; have hh := below_heap hb (heap_alloc_new _ _); obtain ⟨c0, c1, c2, c3, f0, f1, f2, f3⟩ := blk4 hh; have HB : Hid (Below w.heap.size w w1) := ((Below.refl _ _).alloc (Nat.le_refl _) _).trans (hb.mono (by simp)); clear hb)
    refine bodyPost_ret_by (results_ct2 rfl _ _ w.heap.size 44 _ (0, 0) _ rfl (blk4_set hh) Tryz.underlying44 rfl (by kernel_rfl)) rfl ?_
    exact ⟨rfl, blk4_below HB.out (Nat.le_refl _)⟩
  by_cases h13 : s = ⟨#[42]⟩
  · subst h13
    have HC : Hid _ := fun w => new_op ⟨#[42]⟩ 400 400 399 w hs
    clear hs
    go_enter Tryz.func39, Tryz.ntmps39
    go_wp2_with (go_at_call 54; refine (HC.out _).mono ?_; rintro e w1 ⟨rfl, hb⟩; have hh := below_heap hb (heap_alloc_new _ _); obtain ⟨c0, c1, c2, c3, f0, f1, f2, f3⟩ := blk4 hh; have HB : Hid (Below w.heap.size w w1) := ((Below.refl _ _).alloc (Nat.le_refl _) _).trans (hb.mono (by simp)); clear hb)
    refine bodyPost_ret_by (results_ct2 rfl _ _ w.heap.size 44 _ (0, 0) _ rfl (blk4_set hh) Tryz.underlying44 rfl (by kernel_rfl)) rfl ?_
    exact ⟨rfl, blk4_below HB.out (Nat.le_refl _)⟩
  by_cases h14 : s = ⟨#[47, 47]⟩
  · subst h14
    have HC : Hid _ := fun w => new_op ⟨#[47, 47]⟩ 400 400 399 w hs
    clear hs
    go_enter Tryz.func39, Tryz.ntmps39
    go_wp2_with (go_at_call 54; refine (HC.out _).mono ?_; rintro e w1 ⟨rfl, hb⟩; have hh := below_heap hb (heap_alloc_new _ _); obtain ⟨c0, c1, c2, c3, f0, f1, f2, f3⟩ := blk4 hh; have HB : Hid (Below w.heap.size w w1) := ((Below.refl _ _).alloc (Nat.le_refl _) _).trans (hb.mono (by simp)); clear hb)
    refine bodyPost_ret_by (results_ct2 rfl _ _ w.heap.size 44 _ (0, 0) _ rfl (blk4_set hh) Tryz.underlying44 rfl (by kernel_rfl)) rfl ?_
    exact ⟨rfl, blk4_below HB.out (Nat.le_refl _)⟩
  have HN : Hid (infixP s = none) := by
    show _ = _
    unfold infixP
    split <;> first | rfl | skip
    all_goals
      rename_i hh
      exfalso
      have hs : s = ⟨s.data.toList.toArray⟩ := by simp
      rw [hh] at hs
      first | exact h0 hs | exact h1 hs | exact h2 hs | exact h3 hs | exact h4 hs | exact h5 hs | exact h6 hs | exact h7 hs | exact h8 hs | exact h9 hs | exact h10 hs | exact h11 hs | exact h12 hs | exact h13 hs | exact h14 hs
  have e0 : (s.toList == [58, 45]) = false := toL_ne (l := [58, 45]) h0
  have e1 : (s.toList == [45, 45, 62]) = false := toL_ne (l := [45, 45, 62]) h1
  have e2 : (s.toList == [59]) = false := toL_ne (l := [59]) h2
  have e3 : (s.toList == [45, 62]) = false := toL_ne (l := [45, 62]) h3
  have e4 : (s.toList == [44]) = false := toL_ne (l := [44]) h4
  have e5 : (s.toList == [61]) = false := toL_ne (l := [61]) h5
  have e6 : (s.toList == [92, 61]) = false := toL_ne (l := [92, 61]) h6
  have e7 : (s.toList == [61, 61]) = false := toL_ne (l := [61, 61]) h7
  have e8 : (s.toList == [105, 115]) = false := toL_ne (l := [105, 115]) h8
  have e9 : (s.toList == [60]) = false := toL_ne (l := [60]) h9
  have e10 : (s.toList == [61, 58, 61]) = false := toL_ne (l := [61, 58, 61]) h10
  have e11 : (s.toList == [43]) = false := toL_ne (l := [43]) h11
  have e12 : (s.toList == [45]) = false := toL_ne (l := [45]) h12
  have e13 : (s.toList == [42]) = false := toL_ne (l := [42]) h13
  have e14 : (s.toList == [47, 47]) = false := toL_ne (l := [47, 47]) h14
  clear hs h0 h1 h2 h3 h4 h5 h6 h7 h8 h9 h10 h11 h12 h13 h14
  go_enter Tryz.func39, Tryz.ntmps39
  go_wp2
  refine bodyPost_ret_by (results_ct2 rfl _ _ w.heap.size 44 _ (0, 0) _ rfl (heap_alloc_new _ _) Tryz.underlying44 rfl (by kernel_rfl)) rfl ?_
  exact ⟨by rw [HN.out]; rfl, (Below.refl _ _).alloc (Nat.le_refl _) _⟩
end Go.Proofs.YtenmhpalpfppmaoGreatDoor
