/- Two terms but for their kids: the code's sameBut, with numbers that must be the same. -/
import Derived.Test.YtgkchpjincmjfalRows
import Derived.Test.YtgkchpjincmjfalTmOk
import Derived.ProofKit
namespace Go.Proofs.Ytgkchpjincmjfal
open Go.RowKit

@[go_sem] theorem me_same_pairs (f : Nat) (w : World) : (method (f + 1) 49 (.agg #[]) "loop.example/g00469/impl.pairs").run Try.prog w = .ok (76, .agg #[]) w := by kernel_rfl

def headEq (k : Int) (s : ByteArray) (n : Int) (l : Nat) (k' : Int) (s' : ByteArray) (n' : Int) (l' : Nat) : Bool := decide (k = k') && (s.toList == s'.toList) && decide (n = n') && decide (l = l')

theorem beqI (a b : Int) : (a == b) = decide (a = b) := by by_cases h : a = b <;> simp [h]

theorem pairsSame (a b : Int) (w : World) : Calls Try.prog 76 #[.agg #[], .int .i64 a, .int .i64 b] w fun e w' => e = .returned (.bool (a == b)) ∧ Below w.heap.size w w' := by
  go_enter Try.func76, Try.ntmps76
  go_wp2
  go_ret
  exact ⟨rfl, (Below.refl _ _).alloc (Nat.le_refl _) _⟩

set_option maxRecDepth 20000 in
theorem sameBut_any (k : Int) (s : ByteArray) (n : Int) (ao : Option Addr) (l cap : Nat) (k' : Int) (s' : ByteArray) (n' : Int) (bo : Option Addr) (l' cap' : Nat) (hl' : l' ≤ maxLen) (w : World) :
    Calls Try.prog 46 #[.agg #[.int .i64 k, .string s, .int .i64 n, .slice ao l cap], .agg #[.int .i64 k', .string s', .int .i64 n', .slice bo l' cap'], .iface 49 (.agg #[])] w fun e w' => e = .returned (.bool (headEq k s n l k' s' n' l')) ∧ Below w.heap.size w w' := by
  obtain ⟨W, hW⟩ : ∃ W, W = ((w.alloc (.cells #[.int .i64 k, .string s, .int .i64 n, .slice ao l cap] 29)).alloc (.cells #[.int .i64 k', .string s', .int .i64 n', .slice bo l' cap'] 29)) := ⟨_, rfl⟩
  have hb0 : Below w.heap.size w W := by rw [hW]; exact ((Below.refl _ _).alloc (Nat.le_refl _) _).alloc (by simp) _
  rw [hW] at hb0
  unfold maxLen at hl'
  clear hW
  by_cases h1 : k = k'
  rotate_left
  · have e1 : (k == k') = false := beq_eq_false_iff_ne.2 h1
    go_enter Try.func46, Try.ntmps46
    go_wp2
    go_ret
    exact ⟨ret_bool (by simp [headEq, h1]), hb0⟩
  subst h1
  cases h2 : (s.toList == s'.toList) with
  | false =>
    go_enter Try.func46, Try.ntmps46
    go_wp2
    go_ret
    exact ⟨ret_bool (by simp [headEq, h2]), hb0⟩
  | true =>
    by_cases h3 : l = l'
    rotate_left
    · have e1 : ((l : Int) == (l' : Int)) = false := beq_eq_false_iff_ne.2 (by omega)
      go_enter Try.func46, Try.ntmps46
      go_wp2
      go_ret
      exact ⟨ret_bool (by simp [headEq, h3]), hb0⟩
    subst h3
    by_cases h4 : k = 1
    · subst h4
      go_enter Try.func46, Try.ntmps46
      go_wp2_with (go_at_call 76; refine (Calls.mono (pairsSame _ _ _) ?_); rintro e w1 ⟨rfl, hb⟩; have HB : Hid (Below w.heap.size w w1) := hb0.trans (hb.mono hb0.size); clear hb)
      go_ret
      exact ⟨ret_bool (by simp [headEq, h2, beqI]), HB.out⟩
    · have e1 : (k == 1) = false := beq_eq_false_iff_ne.2 h4
      go_enter Try.func46, Try.ntmps46
      go_wp2
      go_ret
      exact ⟨ret_bool (by simp [headEq, h2, beqI]), hb0⟩
end Go.Proofs.Ytgkchpjincmjfal
