/- Rows of strings, written into from any number on, and still there (by genstrc.py). -/
import Derived.Test.YtmhmlkdoaojimapGreatDoorMrg5
import Derived.Test.YtmhmlkdoaojimapGreatDoorMrg9
namespace Go.Proofs.YtmhmlkdoaojimapGreatDoor
open Go.RowKit

theorem mark_nat (n : Nat) (w : World) (h0 : 0 < n) (hN : n ≤ 4611686018427387904) :
    Calls Tryz.prog 48 #[.int .i64 (n : Int)] w fun e w' => e = .returned (.string ⟨(mkS n).toArray⟩) ∧ Below w.heap.size w w' := by
  have := mark_int (n : Int) w (by omega) (by omega)
  simpa using this
def marksC (c n : Nat) : List (List UInt8) := (List.range n).map fun j => mkS (c + j)
theorem marksC_len (c n : Nat) : (marksC c n).length = n := by simp [marksC]
theorem marksC_get (c n j : Nat) (h : j < n) : (marksC c n)[j]? = some (mkS (c + j)) := by simp [marksC, h]
theorem marksC_succ (c n : Nat) : marksC c (n + 1) = marksC c n ++ [mkS (c + n)] := by simp [marksC, List.range_succ]

set_option maxHeartbeats 1000000 in
theorem markS_from (c B : Nat) (xs : List (List UInt8)) (a : Value) (w : World) (hc : 0 < c ∧ c ≤ 1000000000) (hl : xs.length ≤ 1100000) (ha : w.ownsRow B 9 1 a xs.length (strsV xs)) :
    Calls Tryz.prog 30 #[a, .int .i64 (c : Int)] w fun e w' => e = .returned (.int .i64 ((c + xs.length : Nat) : Int)) ∧ Out a.ownBlock.toList w w' ∧ w'.ownsRow B 9 1 a xs.length (strsV (marksC c xs.length)) := by
  by_cases h0 : xs = []
  · subst h0
    rcases ha.2 with ⟨rfl, _⟩ | ⟨g, cap, cur, rfl, _⟩
    all_goals
      go_enter Tryz.func30, Tryz.ntmps30
      go_wp2
      refine wp_loop_rounds 1 ?_
      rw [rounds_succ]
      go_wp2
      go_ret
      exact ⟨rfl, Out.refl _ _, ha⟩
  · have hpos : 0 < xs.length := List.length_pos_iff.2 h0
    have ha' := ha
    rcases ha.2 with ⟨rfl, hz⟩ | ⟨g, cap, cur, rfl, hgB, _⟩
    · omega
    clear ha h0
    generalize hn : xs.length = n at *
    go_enter Tryz.func30, Tryz.ntmps30
    go_wp2
    go_loopw [1, 5] (fun vk i wr => ∃ (k : Nat) (ys : List (List UInt8)), k ≤ n ∧ i = .int .i64 k ∧ vk = .int .i64 ((c + k : Nat) : Int) ∧ Hid (ys.length = n ∧ ys.take k = marksC c k) ∧ wr.ownsRow B 9 1 (.slice (some ⟨g, 0, none⟩) n cap) n (strsV ys) ∧ Out (Value.ownBlock (.slice (some ⟨g, 0, none⟩) n cap)).toList w wr) (fun _ i _ => n - (intOf i).toNat)
    case atStart => exact ⟨0, xs, Nat.zero_le _, rfl, rfl, ⟨hn, by simp [marksC]⟩, ha', Out.refl _ _⟩
    case round =>
      obtain ⟨k, ys, hk, rfl, rfl, hys, hown, hbel⟩ := hrel
      have hsz := hbel.size
      by_cases hlt : k < n
      · have hyl : k < ys.length := by rw [hys.out.1]; exact hlt
        go_wp2_with (go_at_call 48; refine (mark_nat (c + k) _ (by omega) (by omega)).mono ?_; rintro e w1 ⟨rfl, hb1⟩; have r1 := owns_below hown hb1; have c1 := (r1.cellAt k (by omega)).trans (strsV_get ys k hyl); have f1 := r1.frozenAt k)
        have R := r1.stored k (.string ⟨(mkS (c + k)).toArray⟩)
        rw [strsV_set] at R
        go_roundw
        case rel => exact ⟨k + 1, _, by omega, by go_num, by go_num, ⟨by rw [List.length_set]; exact hys.out.1, by rw [take_set _ _ _ hyl, hys.out.2, marksC_succ]⟩, R.1, (hbel.trans (Out.of_below hb1)).trans (Out.set (by simp [Value.ownBlock]) _ _ _)⟩
        case measure => simp [intOf]; omega
      · obtain rfl : k = n := by omega
        have hf : ys = marksC c k := by have h := hys.out; rw [List.take_of_length_le (by omega)] at h; exact h.2
        rw [hf] at hown
        clear hys
        go_wp2
        go_ret
        exact ⟨rfl, hbel, hown⟩

end Go.Proofs.YtmhmlkdoaojimapGreatDoor
