/- laws.heldStringS, from any number on. -/
import Derived.Test.YtmhmlkdoaojimapGreatDoorStrC
namespace Go.Proofs.YtmhmlkdoaojimapGreatDoor
open Go.RowKit

set_option maxHeartbeats 1000000 in
theorem heldS_from (c n : Nat) (a : Value) (w : World) (hc : 0 < c ∧ c ≤ 1000000000) (hl : n ≤ 1100000) (ha : w.ownsRow 0 9 1 a n (strsV (marksC c n))) :
    Calls Tryz.prog 33 #[a, .int .i64 (c : Int)] w fun e w' => e = .returned (.int .i64 ((c + n : Nat) : Int)) ∧ Below w.heap.size w w' := by
  by_cases h0 : n = 0
  · subst h0
    rcases ha.2 with ⟨rfl, _⟩ | ⟨g, cap, cur, rfl, _⟩
    all_goals
      clear ha
      go_enter Tryz.func33, Tryz.ntmps33
      go_wp2
      refine wp_loop_rounds 1 ?_
      rw [rounds_succ]
      go_wp2
      go_ret
      exact ⟨rfl, Below.refl _ _⟩
  · have ha' := ha
    rcases ha.2 with ⟨rfl, hz⟩ | ⟨g, cap, cur, rfl, _⟩
    · omega
    clear ha
    go_enter Tryz.func33, Tryz.ntmps33
    go_wp2
    go_loopw [1, 5] (fun vk i wr => ∃ (k : Nat), k ≤ n ∧ i = .int .i64 k ∧ vk = .int .i64 ((c + k : Nat) : Int) ∧ Below w.heap.size w wr) (fun _ i _ => n - (intOf i).toNat)
    case atStart => exact ⟨0, Nat.zero_le _, rfl, rfl, Below.refl _ _⟩
    case round =>
      obtain ⟨k, hk, rfl, rfl, hbel⟩ := hrel
      have hsz := hbel.size
      have ra := owns_below ha' hbel
      by_cases hlt : k < n
      · have hc : ∀ u : World, (later wr u).cell? ⟨g, k, none⟩ = some (.string ⟨(mkS (c + k)).toArray⟩) := by
          intro u
          refine ((owns_below ra (later_below wr u)).cellAt k (by omega)).trans ?_
          rw [strsV_get _ _ (by rw [marksC_len]; exact hlt)]
          have := marksC_get c n k hlt
          rw [List.getElem?_eq_getElem (by rw [marksC_len]; exact hlt)] at this
          rw [Option.some.inj this]
        clear ra
        go_wp2
        refine wp_region_later (by kernel_rfl) (by kernel_rfl) ?_
        repeat (go_big_quiet_step ((go_at_call 48; exact Calls.later_of_below (mark_nat (c + k) _ (by omega) (by omega)))))
        refine wpQuiet_nil ?_
        rintro _ ⟨u, rfl⟩
        have hb2 := later_below wr u
        clear hc
        go_wp2
        go_roundw
        case rel => exact ⟨k + 1, by omega, by go_num, by go_num, hbel.trans (hb2.mono hsz)⟩
        case measure => simp [intOf]; omega
      · clear ra
        obtain rfl : k = n := by omega
        go_wp2
        go_ret
        exact ⟨rfl, hbel⟩
end Go.Proofs.YtmhmlkdoaojimapGreatDoor
