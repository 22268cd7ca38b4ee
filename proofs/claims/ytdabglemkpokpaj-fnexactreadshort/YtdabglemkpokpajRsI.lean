/- The code's ReadShort. -/
import Derived.Test.YtdabglemkpokpajRvImpl
import Derived.Test.YtdabglemkpokpajClone
import Derived.Lib.Strings
namespace Go.Proofs.Ytdabglemkpokpaj
open Go.RowKit

theorem scan_bounds : ∀ (l : List UInt8) (k n u r m : Nat), rvScan l k n u = some (r, m) → r ≤ 1000000000 ∧ k < m ∧ m ≤ k + l.length
  | [], _, _, _, _, _, h => by simp [rvScan] at h
  | c :: t, k, n, u, r, m, h => by
    rw [rvScan] at h
    split at h
    · simp at h
    · split at h
      · have := scan_bounds t _ _ _ r m h
        simp only [List.length_cons]; omega
      · split at h
        · simp at h
        · split at h
          · simp at h
          · simp at h
            simp only [List.length_cons]
            omega

def rsNone : Value := .tuple #[.string ⟨#[]⟩, .int .i64 0, .bool false]
def rsRes (s : ByteArray) (a : Nat) : Value :=
  match rvScan (s.data.toList.drop a) 0 0 1 with
  | some (n, m) => if 20000 < n ∨ s.size < a + m + n then rsNone else .tuple #[.string (s.extract (a + m) (a + m + n)), .int .i64 ((a + m + n : Nat) : Int), .bool true]
  | none => rsNone

theorem drop_len (s : ByteArray) (a : Nat) : (s.data.toList.drop a).length = s.size - a := by
  have hl : s.data.toList.length = s.size := by rw [Array.length_toList]; rfl
  rw [List.length_drop, hl]

theorem rsRes_form (s : ByteArray) (a : Nat) : ∃ (x : ByteArray) (y : Int) (b : Bool), rsRes s a = .tuple #[.string x, .int .i64 y, .bool b] := by
  unfold rsRes
  split
  · split
    · exact ⟨_, _, _, rfl⟩
    · exact ⟨_, _, _, rfl⟩
  · exact ⟨_, _, _, rfl⟩

set_option maxHeartbeats 1000000 in
theorem implRs_in (s : ByteArray) (a : Nat) (w : World) (hs : s.size ≤ 1048576) (ha : a ≤ s.size) :
    Calls Try.prog 13 #[.string s, .int .i64 a] w fun e w' => e = .returned (rsRes s a) ∧ Below w.heap.size w w' := by
  have hS := implRv_in s a
  unfold rsRes
  unfold rvRes at hS
  cases hr : rvScan (s.data.toList.drop a) 0 0 1 with
  | none =>
    rw [hr] at hS
    have HS : Hid _ := hS
    clear hS hr
    go_enter Try.func13, Try.ntmps13
    go_wp2_with (go_at_call 9; refine (HS.out _ hs ha).mono ?_; rintro e w1 ⟨rfl, rfl⟩)
    go_ret3
    exact ⟨rfl, Below.refl _ _⟩
  | some q =>
    obtain ⟨n, m⟩ := q
    rw [hr] at hS
    obtain ⟨hn, hm0, hm1⟩ := scan_bounds _ _ _ _ _ _ hr
    rw [drop_len] at hm1
    have HS : Hid _ := hS
    clear hS hr
    by_cases h1 : 20000 < n
    · simp only [h1, true_or, if_true]
      go_enter Try.func13, Try.ntmps13
      go_wp2_with (go_at_call 9; refine (HS.out _ hs ha).mono ?_; rintro e w1 ⟨rfl, rfl⟩)
      go_ret3
      exact ⟨rfl, Below.refl _ _⟩
    · by_cases h2 : s.size < a + m + n
      · simp only [h1, h2, or_true, if_true]
        go_enter Try.func13, Try.ntmps13
        go_wp2_with (go_at_call 9; refine (HS.out _ hs ha).mono ?_; rintro e w1 ⟨rfl, rfl⟩)
        go_ret3
        exact ⟨rfl, Below.refl _ _⟩
      · simp only [h1, h2, or_false, if_false]
        go_enter Try.func13, Try.ntmps13
        go_wp2_with (first | (go_at_call 9; refine (HS.out _ hs ha).mono ?_; rintro e w1 ⟨rfl, rfl⟩) | (go_at_call 21; refine (clone_any _ _ (by rw [ByteArray.size_extract]; omega)).mono ?_; rintro e w1 ⟨rfl, hb1⟩))
        go_ret3
        exact ⟨by simp, hb1⟩
end Go.Proofs.Ytdabglemkpokpaj
