/- The laws' markText writes a letter and decimal figures. -/
import Derived.Test.YtmhmlkdoaojimaqDecAux
namespace Go.Proofs.Ytmhmlkdoaojimaq
open Go.RowKit

def mkS (k : Nat) : List UInt8 := 109 :: decR k

set_option maxHeartbeats 1000000 in
theorem mark_any (N : Nat) (w : World) (h0 : 0 < N) (hN : N ≤ 4611686018427387904) :
    Calls Try.prog 39 #[.int .i64 (N : Int)] w fun e w' => e = .returned (.string ⟨(mkS N).toArray⟩) ∧ Below w.heap.size w w' := by
  have hfin := add_one 109 (decR N) (by have := decR_len 20 N (by omega); omega)
  unfold mkS
  go_enter Try.func39, Try.ntmps39
  go_wp2
  go_loopw [0, 3] (fun vn vs wr => ∃ (m : Nat) (q : List UInt8), vn = .int .i64 m ∧ vs = .string ⟨q.toArray⟩ ∧ m ≤ N ∧ q.length ≤ 20 ∧ Hid (decR m ++ q = decR N) ∧ Below w.heap.size w wr)
    (fun vn _ _ => (intOf vn).toNat)
  case atStart => exact ⟨N, [], rfl, rfl, Nat.le_refl _, by simp, by show _ = _; simp, Below.refl _ _⟩
  case round =>
    obtain ⟨m, q, rfl, rfl, hmN, hql, hq, hb⟩ := hrel
    have hsz := hb.size
    by_cases hm : m = 0
    · subst hm
      have hf : q = decR N := by have := hq.out; rwa [decR_zero, List.nil_append] at this
      subst hf
      clear hq
      go_wp2
      go_ret
      exact ⟨rfl, hb⟩
    · have hmp : 0 < m := by omega
      have hadd := add_one (fig (m % 10)) q (by omega)
      have e : ((fig (m % 10)).toNat : Int) = 48 + (m : Int) % 10 := by rw [fig_nat _ (by omega), if_pos (by omega)]; omega
      have hcv : ∀ W : World, (convert 76 9 (.slice (some ⟨W.heap.size, 0, none⟩) 1 1)).run Try.prog (W.alloc (.cells #[.int .u8 (48 + (m : Int) % 10)] 5)) = .ok (.string ⟨#[fig (m % 10)]⟩) (W.alloc (.cells #[.int .u8 (48 + (m : Int) % 10)] 5)) := by
        intro W; have := conv_one W (fig (m % 10)); rwa [e] at this
      have hq' : Hid _ := dec_step hmp hq.out
      have hql' := dec_q (by omega) hq'.out
      clear hm hq hfin e
      go_wp2
      go_roundw
      case rel => exact ⟨m / 10, _, by go_num, rfl, by omega, hql', hq', hb.alloc hsz _⟩
      case measure => simp [intOf]; omega

theorem mark_int (n : Int) (w : World) (h0 : 0 < n) (hN : n ≤ 4611686018427387904) :
    Calls Try.prog 39 #[.int .i64 n] w fun e w' => e = .returned (.string ⟨(mkS n.toNat).toArray⟩) ∧ Below w.heap.size w w' := by
  have := mark_any n.toNat w (by omega) (by omega)
  rwa [show (n.toNat : Int) = n by omega] at this
end Go.Proofs.Ytmhmlkdoaojimaq
