/- The specification's Decimal writes decI. -/
import Derived.Test.YtbkjcccbjnehbaoDoorFig
import Derived.Test.YtbkjcccbjnehbaoDoorDecAux
namespace Go.Proofs.YtbkjcccbjnehbaoDoor
open Go.RowKit

set_option maxHeartbeats 1000000 in
theorem dec_nat (N : Nat) (w : World) (hN : N ≤ 9223372036854775807) :
    Calls Tryd.prog 23 #[.int .i64 (N : Int)] w fun e w' => e = .returned (.string ⟨(decB N).toArray⟩) ∧ Below w.heap.size w w' := by
  by_cases h0 : N = 0
  · subst h0
    go_enter Tryd.func23, Tryd.ntmps23
    go_wp2
    go_ret
    exact ⟨rfl, Below.refl _ _⟩
  · have hb0 : ((N : Int) == 0) = false := beq_eq_false_iff_ne.2 (by omega)
    have hpos : 0 < N := by omega
    rw [decB, if_neg h0]
    clear h0
    go_enter Tryd.func23, Tryd.ntmps23
    go_wp2
    go_loopw [0, 4, 5] (fun vn vs _ wr => ∃ (m : Nat) (q : List UInt8), vn = .int .i64 m ∧ vs = .string ⟨q.toArray⟩ ∧ m ≤ N ∧ q.length ≤ 20 ∧ Hid (decR m ++ q = decR N) ∧ Below w.heap.size w wr)
      (fun vn _ _ _ => (intOf vn).toNat)
    case atStart => exact ⟨N, [], rfl, rfl, Nat.le_refl _, by simp, by show _ = _; simp, Below.refl _ _⟩
    case round =>
      obtain ⟨m, q, rfl, rfl, hmN, hql, hq, hb⟩ := hrel
      have hsz := hb.size
      by_cases hm : m = 0
      · subst hm
        have hf : q = decR N := by have := hq.out; rwa [decR_zero, List.nil_append] at this
        have hF : Hid _ := hf
        clear hq hf
        go_wp2
        go_ret
        exact ⟨by rw [← hF.out]; rfl, hb⟩
      · have hne : ((m : Int) != 0) = true := by rw [bne_iff_ne]; omega
        have hadd := add_one (fig (m % 10)) q (by omega)
        have hcv := fun W => conv_one W (fig (m % 10))
        have hq' : Hid _ := dec_step (show 0 < m by omega) hq.out
        have hql' := dec_q (by omega) hq'.out
        have hmp : 0 < m := by omega
        clear hm hq
        go_wp2_with (go_at_call 41; refine (figure_any _ _ (by omega) (by omega)).mono ?_; rintro e w' ⟨rfl, rfl⟩)
        go_roundw
        case rel => exact ⟨m / 10, _, by go_num, rfl, by omega, hql', hq', hb.alloc hsz _⟩
        case measure => simp [intOf]; omega

set_option maxHeartbeats 1000000 in
theorem dec_neg (N : Nat) (w : World) (h0 : 0 < N) (hN : N ≤ 9223372036854775808) :
    Calls Tryd.prog 23 #[.int .i64 (-(N : Int))] w fun e w' => e = .returned (.string ⟨(45 :: decR N).toArray⟩) ∧ Below w.heap.size w w' := by
  have hb0 : (-(N : Int) == 0) = false := beq_eq_false_iff_ne.2 (by omega)
  have hlt : -(N : Int) < 0 := by omega
  have hfin := add_one 45 (decR N) (by have := decR_len 20 N (by omega); omega)
  go_enter Tryd.func23, Tryd.ntmps23
  go_wp2
  go_loopw [0, 4, 5] (fun vn vs _ wr => ∃ (m : Nat) (q : List UInt8), vn = .int .i64 (-(m : Int)) ∧ vs = .string ⟨q.toArray⟩ ∧ m ≤ N ∧ q.length ≤ 20 ∧ Hid (decR m ++ q = decR N) ∧ Below w.heap.size w wr)
    (fun vn _ _ _ => (- intOf vn).toNat)
  case atStart => exact ⟨N, [], rfl, rfl, Nat.le_refl _, by simp, by show _ = _; simp, Below.refl _ _⟩
  case round =>
    obtain ⟨m, q, rfl, rfl, hmN, hql, hq, hb⟩ := hrel
    have hsz := hb.size
    by_cases hm : m = 0
    · subst hm
      have hf : q = decR N := by have := hq.out; rwa [decR_zero, List.nil_append] at this
      subst hf
      clear hq
      go_wp2
      go_ret
      exact ⟨rfl, hb⟩
    · have hne : (-(m : Int) != 0) = true := by rw [bne_iff_ne]; omega
      have hq' : Hid _ := dec_step (show 0 < m by omega) hq.out
      have hql' := dec_q (by omega) hq'.out
      have hd : (-(m : Int)).tdiv 10 = -((m : Int) / 10) := by rw [Int.neg_tdiv, Int.tdiv_eq_ediv_of_nonneg (by omega)]
      have hmp : 0 < m := by omega
      clear hm hq hfin
      by_cases hz : m % 10 = 0
      · have ht : (-(m : Int)).tmod 10 = 0 := by rw [Int.neg_tmod, Int.tmod_eq_emod_of_nonneg (by omega)]; omega
        rw [hz] at hq' hql'
        have hadd := add_one (fig 0) q (by omega)
        have hcv := fun W => conv_one W (fig 0)
        clear hz
        go_wp2_with (go_at_call 41; refine (figure_any _ _ (by omega) (by omega)).mono ?_; rintro e w' ⟨rfl, rfl⟩)
        go_roundw
        case rel => exact ⟨m / 10, _, by go_num, rfl, by omega, hql', hq', hb.alloc hsz _⟩
        case measure => simp [intOf]; omega
      · have ht : (-(m : Int)).tmod 10 = -((m : Int) % 10) := by rw [Int.neg_tmod, Int.tmod_eq_emod_of_nonneg (by omega)]
        have hadd := add_one (fig (m % 10)) q (by omega)
        have hcv := fun W => conv_one W (fig (m % 10))
        go_wp2_with (go_at_call 41; refine (figure_any _ _ (by omega) (by omega)).mono ?_; rintro e w' ⟨rfl, rfl⟩)
        go_roundw
        case rel => exact ⟨m / 10, _, by go_num, rfl, by omega, hql', hq', hb.alloc hsz _⟩
        case measure => simp [intOf]; omega
end Go.Proofs.YtbkjcccbjnehbaoDoor
