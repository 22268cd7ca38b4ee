/- The spec's l01Var writes varB. -/
import Derived.Test.YtdabglemkpokpajVarA0
namespace Go.Proofs.Ytdabglemkpokpaj
open Go.RowKit

set_option maxHeartbeats 400000 in
theorem l01Var_any (n : Int) (w : World) (h0 : 0 ≤ n) (h1 : n ≤ 1000000000000) :
    Calls Try.prog 19 #[.int .i64 n] w fun e w' => e = .returned (.string ⟨(varB n.toNat).toArray⟩) ∧ Below w.heap.size w w' := by
  obtain ⟨i0, hi, hz0, hz1, hz2⟩ := info_parts info5
  go_enter Try.func19, Try.ntmps19
  go_wp2
  go_loopw [0, 3] (fun i v wr => ∃ (m : Nat) (p : List UInt8), i = .int .i64 m ∧ Hid (p ++ varB m = varB n.toNat) ∧ p.length + m ≤ n ∧ wr.ownsRow w.heap.size 5 1 v p.length (bytesV p) ∧ Below w.heap.size w wr)
    (fun i _ _ => (intOf i).toNat)
  case atStart => exact ⟨n.toNat, [], by go_num, rfl, by simp; omega, own_fresh w _ (Nat.le_refl _), (Below.refl _ _).alloc (Nat.le_refl _) _⟩
  case round =>
    obtain ⟨m, p, rfl, hp, hl, hown, hb⟩ := hrel
    have hsz := hb.size
    by_cases hlt : 127 < m
    · go_wp2_with (at_builtin; refine wpList_append_own _ rfl _ _ 34 rfl w.heap.size 5 i0 (.int .u8 0) 1 1 Try.underlying34 hi hz0 hz1 hz2 rfl (by decide) _ _ _ rfl (hown.alloc _) ⟨wr.heap.size, 0, none⟩ 1 1 [.int .u8 ((m : Int) % 128 + 128)] rfl rfl ?c1 ?c2 ?c3 ?c4 ?c5 ?_)
      case c1 => exact cell_one_new _ _ _
      case c2 => intro u hu; simp at hu; subst hu; rfl
      case c3 => unfold maxLen; omega
      case c4 => omega
      case c5 => simp; omega
      · intro v' w1 hown' hgrow _
        have R := own_push (UInt8.ofNat (m % 128 + 128)) (by simp; omega) hb hsz hown hown' hgrow
        have hq : Hid ((p ++ [UInt8.ofNat (m % 128 + 128)]) ++ varB (m / 128) = varB n.toNat) := by
          have := hp.out
          rw [varB_more hlt] at this
          show _ = _
          rw [← this]; simp
        clear hown hown' hgrow hp
        go_wp2
        go_roundw
        case rel => exact ⟨m / 128, _, by go_num, hq, by simp; omega, R.1, R.2⟩
        case measure => simp [intOf]; omega
    · go_wp2_with (at_builtin; refine wpList_append_own _ rfl _ _ 34 rfl w.heap.size 5 i0 (.int .u8 0) 1 1 Try.underlying34 hi hz0 hz1 hz2 rfl (by decide) _ _ _ rfl (hown.alloc _) ⟨wr.heap.size, 0, none⟩ 1 1 [.int .u8 (m : Int)] rfl rfl ?d1 ?d2 ?d3 ?d4 ?d5 ?_)
      case d1 => exact cell_one_new _ _ _
      case d2 => intro u hu; simp at hu; subst hu; rfl
      case d3 => unfold maxLen; omega
      case d4 => omega
      case d5 => simp; omega
      · intro v' w1 hown' hgrow _
        have R := own_push (UInt8.ofNat m) (by simp; omega) hb hsz hown hown' hgrow
        have hq : p ++ [UInt8.ofNat m] = varB n.toNat := by
          have := hp.out
          rw [varB_last hlt] at this
          exact this
        rw [hq] at R
        have HC := own_string (P := Try.prog) 34 9 5 Try.underlying34 Try.underlying5 Try.underlying9 R.1 (by rw [← hq]; simp)
        clear hown hown' hgrow hp hq
        go_wp2
        go_ret
        exact ⟨rfl, R.2⟩
end Go.Proofs.Ytdabglemkpokpaj
