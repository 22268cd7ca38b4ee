/- The specification's ReadShort. -/
import Derived.Test.YtdabglemkpokpajRsI
import Derived.Test.YtdabglemkpokpajRvSpec
namespace Go.Proofs.Ytdabglemkpokpaj
open Go.RowKit

set_option maxHeartbeats 1000000 in
theorem specRs_in (s : ByteArray) (a : Nat) (w : World) (hs : s.size ≤ 1048576) (ha : a ≤ s.size) :
    Calls Try.prog 12 #[.string s, .int .i64 a] w fun e w' => e = .returned (rsRes s a) ∧ Below w.heap.size w w' := by
  have hS := specRv_in s a
  unfold rsRes
  unfold rvRes at hS
  cases hr : rvScan (s.data.toList.drop a) 0 0 1 with
  | none =>
    rw [hr] at hS
    have HS : Hid _ := hS
    clear hS hr
    go_enter Try.func12, Try.ntmps12
    go_wp2_with (go_at_call 8; refine (HS.out _ hs ha).mono ?_; rintro e w1 ⟨rfl, hb1⟩)
    go_ret3
    exact ⟨rfl, hb1⟩
  | some q =>
    obtain ⟨n, m⟩ := q
    rw [hr] at hS
    obtain ⟨hn, hm0, hm1⟩ := scan_bounds _ _ _ _ _ _ hr
    rw [drop_len] at hm1
    have HS : Hid _ := hS
    clear hS hr
    by_cases h1 : 20000 < n
    · simp only [h1, true_or, if_true]
      go_enter Try.func12, Try.ntmps12
      go_wp2_with (go_at_call 8; refine (HS.out _ hs ha).mono ?_; rintro e w1 ⟨rfl, hb1⟩)
      go_ret3
      exact ⟨rfl, hb1⟩
    · by_cases h2 : s.size < a + m + n
      · simp only [h1, h2, or_true, if_true]
        go_enter Try.func12, Try.ntmps12
        go_wp2_with (go_at_call 8; refine (HS.out _ hs ha).mono ?_; rintro e w1 ⟨rfl, hb1⟩)
        go_ret3
        exact ⟨rfl, hb1⟩
      · simp only [h1, h2, or_false, if_false]
        go_enter Try.func12, Try.ntmps12
        go_wp2_with (go_at_call 8; refine (HS.out _ hs ha).mono ?_; rintro e w1 ⟨rfl, hb1⟩)
        go_ret3
        exact ⟨by simp, hb1⟩
end Go.Proofs.Ytdabglemkpokpaj
