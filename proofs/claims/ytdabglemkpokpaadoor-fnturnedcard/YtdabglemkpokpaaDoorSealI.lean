/- The code's Sealed and Unsealed. -/
import Derived.Test.YtdabglemkpokpaaDoorFourI
import Derived.Test.YtdabglemkpokpaaDoorSumRow
import Derived.Test.YtdabglemkpokpaaDoorRegLater
import Derived.Test.YtdabglemkpokpaaDoorClone
namespace Go.Proofs.YtdabglemkpokpaaDoor
open Go.RowKit

def sumS (s : ByteArray) : Nat := sumL 4294967295 s.data.toList

theorem sumS_lt (s : ByteArray) : sumS s < 4294967296 := sumL_lt _ (by omega)

def fourS (n : Nat) : ByteArray := ⟨(four n).toArray⟩

theorem fourS_size (n : Nat) : (fourS n).size = 4 := rfl

theorem implSum' (s : ByteArray) (hs : s.size ≤ 1099511627776) (w : World) (ht : Tab w) :
    Calls Tryd.prog 21 #[.string s] w fun e w' => e = .returned (.int .u32 ((sumS s : Nat) : Int)) ∧ w' = w := implSum s hs w ht

theorem four_impl' (x : Nat) (hx : x < 4294967296) (w : World) :
    Calls Tryd.prog 32 #[.int .u32 (x : Int)] w fun e w' => e = .returned (.string (fourS x)) ∧ Below w.heap.size w w' := four_impl x hx w

theorem implSealed_no (s : ByteArray) (hs : s.size ≤ 1099511627776) (h : 20000 < s.size) (w : World) :
    Calls Tryd.prog 18 #[.string s] w fun e w' => e = .returned (.tuple #[.string ⟨#[]⟩, .bool false]) ∧ w' = w := by
  go_enter Tryd.func18, Tryd.ntmps18
  go_wp2
  go_ret2
  exact ⟨rfl, rfl⟩

theorem implSealed_yes (s : ByteArray) (h : s.size ≤ 20000) (w : World) (ht : Tab w) :
    Calls Tryd.prog 18 #[.string s] w fun e w' => e = .returned (.tuple #[.string (s ++ fourS (sumS s)), .bool true]) ∧ Below w.heap.size w w' := by
  have hl := fourS_size (sumS s)
  have hx := sumS_lt s
  have hs : s.size ≤ 1099511627776 := by omega
  have HT : Hid _ := ht
  clear ht
  go_enter Tryd.func18, Tryd.ntmps18
  go_wp2_with (first | (go_at_call 21; refine (implSum' _ hs _ HT.out).mono ?_; rintro e w' ⟨rfl, rfl⟩) | (go_at_call 32; refine (four_impl' _ hx _).mono ?_; rintro e w' ⟨rfl, hb⟩))
  go_ret2
  exact ⟨rfl, hb⟩

theorem implUn_no (s : ByteArray) (hs : s.size ≤ 1099511627776) (h : s.size < 4 ∨ 20004 < s.size) (w : World) :
    Calls Tryd.prog 19 #[.string s] w fun e w' => e = .returned (.tuple #[.string ⟨#[]⟩, .bool false]) ∧ w' = w := by
  rcases h with h | h
  all_goals
    go_enter Tryd.func19, Tryd.ntmps19
    go_wp2
    go_ret2
    exact ⟨rfl, rfl⟩

theorem implUn_eq (s : ByteArray) (m : Nat) (hm : s.size = m + 4) (h : m ≤ 20000) (w : World) (ht : Tab w) (he : ((fourS (sumS (s.extract 0 m))).toList == (s.extract m (m + 4)).toList) = true) :
    Calls Tryd.prog 19 #[.string s] w fun e w' => e = .returned (.tuple #[.string (s.extract 0 m), .bool true]) ∧ Below w.heap.size w w' := by
  have hx := sumS_lt (s.extract 0 m)
  have e0 : (s.size : Int) - 4 = (m : Int) := by omega
  have hsz : (s.extract 0 m).size = m := by rw [ByteArray.size_extract]; omega
  have HT : Hid (∀ u, Tab (later w u)) := fun u => ht.below (later_below w u) (lt_of_tab ht)
  clear ht
  go_enter Tryd.func19, Tryd.ntmps19
  go_wp2
  refine wp_region_later (by kernel_rfl) (by kernel_rfl) ?_
  repeat (go_big_quiet_step (first | (go_at_call 21; exact Calls.later_of_same (implSum' _ (by omega) _ (HT.out _))) | (go_at_call 32; exact Calls.later_of_below (four_impl' _ hx _))))
  refine wpQuiet_nil ?_
  rintro _ ⟨u, rfl⟩
  have hb2 := later_below w u
  go_wp2_with (go_at_call 29; refine (clone_any _ _ (by omega)).mono ?_; rintro e w3 ⟨rfl, hb3⟩)
  go_ret2
  exact ⟨rfl, hb2.trans (hb3.mono hb2.size)⟩

theorem implUn_ne (s : ByteArray) (m : Nat) (hm : s.size = m + 4) (h : m ≤ 20000) (w : World) (ht : Tab w) (he : ((fourS (sumS (s.extract 0 m))).toList == (s.extract m (m + 4)).toList) = false) :
    Calls Tryd.prog 19 #[.string s] w fun e w' => e = .returned (.tuple #[.string ⟨#[]⟩, .bool false]) ∧ Below w.heap.size w w' := by
  have hx := sumS_lt (s.extract 0 m)
  have e0 : (s.size : Int) - 4 = (m : Int) := by omega
  have hsz : (s.extract 0 m).size = m := by rw [ByteArray.size_extract]; omega
  have HT : Hid (∀ u, Tab (later w u)) := fun u => ht.below (later_below w u) (lt_of_tab ht)
  clear ht
  go_enter Tryd.func19, Tryd.ntmps19
  go_wp2
  refine wp_region_later (by kernel_rfl) (by kernel_rfl) ?_
  repeat (go_big_quiet_step (first | (go_at_call 21; exact Calls.later_of_same (implSum' _ (by omega) _ (HT.out _))) | (go_at_call 32; exact Calls.later_of_below (four_impl' _ hx _))))
  refine wpQuiet_nil ?_
  rintro _ ⟨u, rfl⟩
  have hb2 := later_below w u
  go_wp2
  go_ret2
  exact ⟨rfl, hb2⟩
end Go.Proofs.YtdabglemkpokpaaDoor
