/- Sealed and Unsealed, of the specification and of the code. -/
import Derived.Test.YtdabglemkpokpakDoorFour
import Derived.Test.YtdabglemkpokpakDoorSumS
import Derived.Test.YtdabglemkpokpakDoorSumRow
import Derived.Test.YtdabglemkpokpakDoorRegLater
import Derived.Test.YtdabglemkpokpakDoorClone
namespace Go.Proofs.YtdabglemkpokpakDoor
open Go.RowKit

def sumS (s : ByteArray) : Nat := sumL 4294967295 s.data.toList
theorem sumS_lt (s : ByteArray) : sumS s < 4294967296 := sumL_lt _ (by omega)
def fourS (n : Nat) : ByteArray := ⟨(four n).toArray⟩
theorem fourS_size (n : Nat) : (fourS n).size = 4 := rfl

theorem specSum' (s : ByteArray) (hs : s.size ≤ 1099511627776) (w : World) :
    Calls Tryd.prog 15 #[.string s] w fun e w' => e = .returned (.int .u32 ((sumS s : Nat) : Int)) ∧ w' = w := specSum s hs w
theorem implSum' (s : ByteArray) (hs : s.size ≤ 1099511627776) (w : World) (ht : Tab w) :
    Calls Tryd.prog 16 #[.string s] w fun e w' => e = .returned (.int .u32 ((sumS s : Nat) : Int)) ∧ w' = w := implSum s hs w ht
theorem four_spec' (x : Nat) (hx : x < 4294967296) (w : World) :
    Calls Tryd.prog 26 #[.int .u32 (x : Int)] w fun e w' => e = .returned (.string (fourS x)) ∧ Below w.heap.size w w' := four_spec x hx w
theorem four_impl' (x : Nat) (hx : x < 4294967296) (w : World) :
    Calls Tryd.prog 27 #[.int .u32 (x : Int)] w fun e w' => e = .returned (.string (fourS x)) ∧ Below w.heap.size w w' := four_impl x hx w

theorem specSealed_no (s : ByteArray) (hs : s.size ≤ 1099511627776) (h : 20000 < s.size) (w : World) :
    Calls Tryd.prog 17 #[.string s] w fun e w' => e = .returned (.tuple #[.string ⟨#[]⟩, .bool false]) ∧ w' = w := by
  go_enter Tryd.func17, Tryd.ntmps17
  go_wp2
  go_ret2
  exact ⟨rfl, rfl⟩
theorem implSealed_no (s : ByteArray) (hs : s.size ≤ 1099511627776) (h : 20000 < s.size) (w : World) :
    Calls Tryd.prog 18 #[.string s] w fun e w' => e = .returned (.tuple #[.string ⟨#[]⟩, .bool false]) ∧ w' = w := by
  go_enter Tryd.func18, Tryd.ntmps18
  go_wp2
  go_ret2
  exact ⟨rfl, rfl⟩

theorem specSealed_yes (s : ByteArray) (h : s.size ≤ 20000) (w : World) :
    Calls Tryd.prog 17 #[.string s] w fun e w' => e = .returned (.tuple #[.string (s ++ fourS (sumS s)), .bool true]) ∧ Below w.heap.size w w' := by
  have hl := fourS_size (sumS s)
  have hx := sumS_lt s
  have hs : s.size ≤ 1099511627776 := by omega
  go_enter Tryd.func17, Tryd.ntmps17
  go_wp2_with (first | (go_at_call 15; refine (specSum' _ hs _).mono ?_; rintro e w' ⟨rfl, rfl⟩) | (go_at_call 26; refine (four_spec' _ hx _).mono ?_; rintro e w' ⟨rfl, hb⟩))
  go_ret2
  exact ⟨rfl, hb⟩
theorem implSealed_yes (s : ByteArray) (h : s.size ≤ 20000) (w : World) (ht : Tab w) :
    Calls Tryd.prog 18 #[.string s] w fun e w' => e = .returned (.tuple #[.string (s ++ fourS (sumS s)), .bool true]) ∧ Below w.heap.size w w' := by
  have hl := fourS_size (sumS s)
  have hx := sumS_lt s
  have hs : s.size ≤ 1099511627776 := by omega
  have HT : Hid _ := ht
  clear ht
  go_enter Tryd.func18, Tryd.ntmps18
  go_wp2_with (first | (go_at_call 16; refine (implSum' _ hs _ HT.out).mono ?_; rintro e w' ⟨rfl, rfl⟩) | (go_at_call 27; refine (four_impl' _ hx _).mono ?_; rintro e w' ⟨rfl, hb⟩))
  go_ret2
  exact ⟨rfl, hb⟩

theorem specUn_no (s : ByteArray) (hs : s.size ≤ 1099511627776) (h : s.size < 4 ∨ 20004 < s.size) (w : World) :
    Calls Tryd.prog 19 #[.string s] w fun e w' => e = .returned (.tuple #[.string ⟨#[]⟩, .bool false]) ∧ Below w.heap.size w w' := by
  rcases h with h | h
  · have h1 : (s.size : Int) - 4 < 0 := by omega
    go_enter Tryd.func19, Tryd.ntmps19
    go_wp2
    refine wp_region_later (by kernel_rfl) (by kernel_rfl) ?_
    repeat (go_big_quiet_step (skip))
    refine wpQuiet_nil ?_
    rintro _ ⟨u, rfl⟩
    have hb2 := later_below w u
    go_wp2
    go_ret2
    exact ⟨rfl, hb2⟩
  · have h1 : decide ((s.size : Int) - 4 < 0) = false := decide_eq_false (by omega)
    have h2 : 20000 < (s.size : Int) - 4 := by omega
    go_enter Tryd.func19, Tryd.ntmps19
    go_wp2
    refine wp_region_later (by kernel_rfl) (by kernel_rfl) ?_
    repeat (go_big_quiet_step (skip))
    refine wpQuiet_nil ?_
    rintro _ ⟨u, rfl⟩
    have hb2 := later_below w u
    go_wp2
    go_ret2
    exact ⟨rfl, hb2⟩
theorem implUn_no (s : ByteArray) (hs : s.size ≤ 1099511627776) (h : s.size < 4 ∨ 20004 < s.size) (w : World) :
    Calls Tryd.prog 20 #[.string s] w fun e w' => e = .returned (.tuple #[.string ⟨#[]⟩, .bool false]) ∧ w' = w := by
  rcases h with h | h
  all_goals
    go_enter Tryd.func20, Tryd.ntmps20
    go_wp2
    go_ret2
    exact ⟨rfl, rfl⟩

theorem implUn_eq (s : ByteArray) (m : Nat) (hm : s.size = m + 4) (h : m ≤ 20000) (w : World) (ht : Tab w) (he : ((fourS (sumS (s.extract 0 m))).toList == (s.extract m (m + 4)).toList) = true) :
    Calls Tryd.prog 20 #[.string s] w fun e w' => e = .returned (.tuple #[.string (s.extract 0 m), .bool true]) ∧ Below w.heap.size w w' := by
  have hx := sumS_lt (s.extract 0 m)
  have e0 : (s.size : Int) - 4 = (m : Int) := by omega
  have hsz : (s.extract 0 m).size = m := by rw [ByteArray.size_extract]; omega
  have HT : Hid (∀ u, Tab (later w u)) := fun u => ht.below (later_below w u) (lt_of_tab ht)
  clear ht
  go_enter Tryd.func20, Tryd.ntmps20
  go_wp2
  refine wp_region_later (by kernel_rfl) (by kernel_rfl) ?_
  repeat (go_big_quiet_step (first | (go_at_call 16; exact Calls.later_of_same (implSum' _ (by omega) _ (HT.out _))) | (go_at_call 27; exact Calls.later_of_below (four_impl' _ hx _))))
  refine wpQuiet_nil ?_
  rintro _ ⟨u, rfl⟩
  have hb2 := later_below w u
  go_wp2_with (go_at_call 23; refine (clone_any _ _ (by omega)).mono ?_; rintro e w3 ⟨rfl, hb3⟩)
  go_ret2
  exact ⟨rfl, hb2.trans (hb3.mono hb2.size)⟩

theorem implUn_ne (s : ByteArray) (m : Nat) (hm : s.size = m + 4) (h : m ≤ 20000) (w : World) (ht : Tab w) (he : ((fourS (sumS (s.extract 0 m))).toList == (s.extract m (m + 4)).toList) = false) :
    Calls Tryd.prog 20 #[.string s] w fun e w' => e = .returned (.tuple #[.string ⟨#[]⟩, .bool false]) ∧ Below w.heap.size w w' := by
  have hx := sumS_lt (s.extract 0 m)
  have e0 : (s.size : Int) - 4 = (m : Int) := by omega
  have hsz : (s.extract 0 m).size = m := by rw [ByteArray.size_extract]; omega
  have HT : Hid (∀ u, Tab (later w u)) := fun u => ht.below (later_below w u) (lt_of_tab ht)
  clear ht
  go_enter Tryd.func20, Tryd.ntmps20
  go_wp2
  refine wp_region_later (by kernel_rfl) (by kernel_rfl) ?_
  repeat (go_big_quiet_step (first | (go_at_call 16; exact Calls.later_of_same (implSum' _ (by omega) _ (HT.out _))) | (go_at_call 27; exact Calls.later_of_below (four_impl' _ hx _))))
  refine wpQuiet_nil ?_
  rintro _ ⟨u, rfl⟩
  have hb2 := later_below w u
  go_wp2
  go_ret2
  exact ⟨rfl, hb2⟩

theorem specUn_eq (s : ByteArray) (m : Nat) (hm : s.size = m + 4) (h : m ≤ 20000) (w : World) (he : ((s.extract m (m + 4)).toList == (fourS (sumS (s.extract 0 m))).toList) = true) :
    Calls Tryd.prog 19 #[.string s] w fun e w' => e = .returned (.tuple #[.string (s.extract 0 m), .bool true]) ∧ Below w.heap.size w w' := by
  have hx := sumS_lt (s.extract 0 m)
  have e0 : (s.size : Int) - 4 = (m : Int) := by omega
  have hsz : (s.extract 0 m).size = m := by rw [ByteArray.size_extract]; omega
  have h1 : decide ((m : Int) < 0) = false := decide_eq_false (by omega)
  have h2 : decide (20000 < (m : Int)) = false := decide_eq_false (by omega)
  go_enter Tryd.func19, Tryd.ntmps19
  go_wp2
  refine wp_region_later (by kernel_rfl) (by kernel_rfl) ?_
  repeat (go_big_quiet_step (first | (go_at_call 15; exact Calls.later_of_same (specSum' _ (by omega) _)) | (go_at_call 26; exact Calls.later_of_below (four_spec' _ hx _))))
  refine wpQuiet_nil ?_
  rintro _ ⟨u, rfl⟩
  have hb2 := later_below w u
  go_wp2
  go_ret2
  exact ⟨rfl, hb2⟩

theorem specUn_ne (s : ByteArray) (m : Nat) (hm : s.size = m + 4) (h : m ≤ 20000) (w : World) (he : ((s.extract m (m + 4)).toList == (fourS (sumS (s.extract 0 m))).toList) = false) :
    Calls Tryd.prog 19 #[.string s] w fun e w' => e = .returned (.tuple #[.string ⟨#[]⟩, .bool false]) ∧ Below w.heap.size w w' := by
  have hx := sumS_lt (s.extract 0 m)
  have e0 : (s.size : Int) - 4 = (m : Int) := by omega
  have hsz : (s.extract 0 m).size = m := by rw [ByteArray.size_extract]; omega
  have h1 : decide ((m : Int) < 0) = false := decide_eq_false (by omega)
  have h2 : decide (20000 < (m : Int)) = false := decide_eq_false (by omega)
  go_enter Tryd.func19, Tryd.ntmps19
  go_wp2
  refine wp_region_later (by kernel_rfl) (by kernel_rfl) ?_
  repeat (go_big_quiet_step (first | (go_at_call 15; exact Calls.later_of_same (specSum' _ (by omega) _)) | (go_at_call 26; exact Calls.later_of_below (four_spec' _ hx _))))
  refine wpQuiet_nil ?_
  rintro _ ⟨u, rfl⟩
  have hb2 := later_below w u
  go_wp2
  go_ret2
  exact ⟨rfl, hb2⟩
end Go.Proofs.YtdabglemkpokpakDoor
