/- The specification's Hex writes hexL. -/
import Derived.Test.YtdabglemkpokpajVarA
import Derived.Test.YtdabglemkpokpajFig
import Derived.Test.YtdabglemkpokpajTakePure
namespace Go.Proofs.Ytdabglemkpokpaj
open Go.RowKit

set_option maxHeartbeats 1000000 in
theorem specHex_yes (s : ByteArray) (w : World) (hs : s.size ≤ 20000) :
    Calls Try.prog 14 #[.string s] w fun e w' => e = .returned (.tuple #[.string ⟨(hexL s.data.toList).toArray⟩, .bool true]) ∧ Below w.heap.size w w' := by
  obtain ⟨i0, hi, hz0, hz1, hz2⟩ := info_parts info5
  go_enter Try.func14, Try.ntmps14
  go_wp2
  go_loopw [4, 5] (fun v i wr => ∃ k : Nat, k ≤ s.size ∧ i = .int .i64 k ∧ wr.ownsRow w.heap.size 5 1 v (hexL (s.data.toList.take k)).length (bytesV (hexL (s.data.toList.take k))) ∧ Below w.heap.size w wr)
    (fun _ i _ => s.size - (intOf i).toNat)
  case atStart => exact ⟨0, Nat.zero_le _, rfl, own_fresh w _ (Nat.le_refl _), (Below.refl _ _).alloc (Nat.le_refl _) _⟩
  case round =>
    obtain ⟨k, hk, rfl, hown, hb⟩ := hrel
    have hsz := hb.size
    by_cases hlt : k < s.size
    · have hc8 := UInt8.toNat_lt s[k]
      have e1 := wrap_byte s[k]
      have e2 := wrap_div s[k]
      have e3 := wrap_mod s[k]
      go_wp2
      refine wp_region_head 13 (by kernel_rfl) (by kernel_rfl) (by kernel_rfl) (by decide) (fun _ d _ _ _ h => by cases d <;> exact h) ?_
      simp only [List.take_succ_cons, List.take_zero, List.drop_succ_cons, List.drop_zero]
      repeat (refine wpHead_some rfl ?_; apply Exists.intro; refine ⟨fun w => ?_, ?_⟩; (go_simp; first | with_reducible rfl | (refine figure_any _ _ ?_ ?_ <;> omega)))
      refine wpHead_nil ?_
      go_wp2_with (at_builtin; refine wpList_append_own _ rfl _ _ 34 rfl w.heap.size 5 i0 (.int .u8 0) 1 1 Try.underlying34 hi hz0 hz1 hz2 rfl (by decide) _ _ _ rfl ((hown.drew).alloc _) ⟨wr.heap.size, 0, none⟩ 2 2 [.int .u8 ((fig (s[k].toNat / 16)).toNat : Int), .int .u8 ((fig (s[k].toNat % 16)).toNat : Int)] rfl rfl ?c1 ?c2 ?c3 ?c4 ?c5 ?_)
      case c1 => exact two_new _ _ _ _
      case c2 => intro u hu; simp at hu; rcases hu with rfl | rfl <;> rfl
      case c3 => have := hexL_take s k; unfold maxLen; omega
      case c4 => have := hexL_take s k; omega
      case c5 => simp; omega
      · intro v' w1 hown' hgrow _
        have R := own_push2 (fig (s[k].toNat / 16)) (fig (s[k].toNat % 16)) rfl rfl ((hb.alloc hsz _).drew) (by simp; omega) hown hown' hgrow
        rw [← hexL_snoc, ← take_snoc s k hlt] at R
        clear hown hown' hgrow e1 e2 e3
        go_wp2
        go_roundw
        case rel => exact ⟨k + 1, by omega, by go_num, R.1, R.2⟩
        case measure => simp [intOf]; omega
    · rw [take_all s k hlt] at hown
      by_cases h0 : s.data.toList = []
      · have HC := own_string_nil (P := Try.prog) 34 9 5 Try.underlying34 Try.underlying5 Try.underlying9 (by rw [h0] at hown; exact hown)
        go_wp2
        go_ret2
        exact ⟨by rw [h0]; rfl, hb⟩
      · have HC := own_string (P := Try.prog) 34 9 5 Try.underlying34 Try.underlying5 Try.underlying9 hown (hexL_ne _ h0)
        clear h0
        go_wp2
        go_ret2
        exact ⟨rfl, hb⟩

theorem specHex_no (s : ByteArray) (w : World) (hs : 20000 < s.size) :
    Calls Try.prog 14 #[.string s] w fun e w' => e = .returned (.tuple #[.string ⟨#[]⟩, .bool false]) ∧ w' = w := by
  go_enter Try.func14, Try.ntmps14
  go_wp2
  go_ret2
  exact ⟨rfl, rfl⟩
end Go.Proofs.Ytdabglemkpokpaj
