/- The library's decimal numeral is decI; the code's Decimal. -/
import Derived.Test.YtbkjcccbjnehbaoDoorRows
import Derived.Test.YtbkjcccbjnehbaoDoorDecPlain
import Derived.Test.YtbkjcccbjnehbaoDoorItoa
import Derived.WalkSmall
import Derived.WalkKit
import Derived.WalkSpells
namespace Go.Proofs.YtbkjcccbjnehbaoDoor
open Go.RowKit

theorem lib_digits (n : Nat) : Lib.decDigits n = decB n := by
  induction n using Nat.strongRecOn with
  | ind n ih =>
    rw [Lib.decDigits]
    by_cases h : n < 10
    · rw [dif_pos h]
      unfold decB
      by_cases h0 : n = 0
      · subst h0; rfl
      · rw [if_neg h0, decR_pos (by omega), show n / 10 = 0 by omega, decR_zero, show n % 10 = n by omega, fig, if_pos h]
        rfl
    · rw [dif_neg h, ih (n / 10) (by omega), decB, if_neg (by omega), decB, if_neg (by omega), decR_pos (show 0 < n by omega)]
      congr 2
      rw [fig, if_pos (by omega)]

theorem lib_itoa (n : Int) : Lib.itoa n = decI n := by
  unfold Lib.itoa decI
  split
  · rename_i h
    rw [lib_digits, decB, if_neg (by omega)]
  · rw [lib_digits]

theorem below_grow (w : World) (k : Nat) (os : Array Obj) : Below w.heap.size w (Go.Sort.grow (w.drewN k) os) :=
  ⟨rfl, rfl, rfl, by simp [Go.Sort.grow], fun j hj => by
    have hj' : j < w.heap.size := hj
    show (w.heap ++ os)[j]? = w.heap[j]?
    rw [Array.getElem?_append_left hj']⟩

theorem impl_any (n : Int) (w : World) (h0 : -9223372036854775808 ≤ n) (h1 : n ≤ 9223372036854775807) (htab : Lib.TabIs Tryd.prog w "internal/strconv.uint64pow10" .u64 Lib.pow10Tab) :
    Calls Tryd.prog 25 #[.int .i64 n] w fun e w' => e = .returned (.string ⟨(decI n).toArray⟩) ∧ Below w.heap.size w w' := by
  rw [← lib_itoa]
  have HT : Hid _ := htab
  clear htab
  go_enter Tryd.func25, Tryd.ntmps25
  go_wp2_with (go_at_call 42; refine (sh_strconv_Itoa _ h0 h1 _ HT.out).mono ?_; rintro e w' ⟨rfl, k, os, rfl⟩)
  go_ret
  exact ⟨rfl, below_grow _ _ _⟩
end Go.Proofs.YtbkjcccbjnehbaoDoor
