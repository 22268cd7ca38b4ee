/- The code's Hex writes hexL. -/
import Derived.Test.YtdabglemkpokpaaDoorMakeOwn
import Derived.Test.YtdabglemkpokpaaDoorHexPlain
import Derived.Test.YtdabglemkpokpaaDoorTakePure
namespace Go.Proofs.YtdabglemkpokpaaDoor
open Go.RowKit

theorem run_figures (x : Nat) (h : x < 16) (w : World) :
    (Instr.index 9 (.string ⟨#[48, 49, 50, 51, 52, 53, 54, 55, 56, 57, 97, 98, 99, 100, 101, 102]⟩) (.int .u8 (x : Int))).run Tryd.prog w = .ok (.int .u8 ((fig x).toNat : Int)) w := by
  have hx : x = 0 ∨ x = 1 ∨ x = 2 ∨ x = 3 ∨ x = 4 ∨ x = 5 ∨ x = 6 ∨ x = 7 ∨ x = 8 ∨ x = 9 ∨ x = 10 ∨ x = 11 ∨ x = 12 ∨ x = 13 ∨ x = 14 ∨ x = 15 := by omega
  rcases hx with rfl | rfl | rfl | rfl | rfl | rfl | rfl | rfl | rfl | rfl | rfl | rfl | rfl | rfl | rfl | rfl
  all_goals rfl

set_option maxHeartbeats 1000000 in
theorem implHex_yes (s : ByteArray) (w : World) (hs : s.size ≤ 20000) :
    Calls Tryd.prog 14 #[.string s] w fun e w' => e = .returned (.tuple #[.string ⟨(hexL s.data.toList).toArray⟩, .bool true]) ∧ Below w.heap.size w w' := by
  obtain ⟨i0, hi, hz0, hz1, hz2⟩ := info_parts info5
  obtain ⟨M, hM, hmk, hown0⟩ := make_bytes (2 * (s.size : Int)) (by omega) (by omega)
  have H0 : Hid _ := hown0
  have HM : Hid _ := hM
  clear hown0 hM
  go_enter Tryd.func14, Tryd.ntmps14
  go_wp2
  go_loopw [4, 5] (fun v i wr => ∃ k : Nat, k ≤ s.size ∧ i = .int .i64 k ∧ wr.ownsRow w.heap.size 5 1 v (hexL (s.data.toList.take k)).length (bytesV (hexL (s.data.toList.take k))) ∧ Below w.heap.size w wr)
    (fun _ i _ => s.size - (intOf i).toNat)
  case atStart => exact ⟨0, Nat.zero_le _, rfl, H0.out w _ (Nat.le_refl _), (Below.refl _ _).alloc (Nat.le_refl _) _⟩
  case round =>
    obtain ⟨k, hk, rfl, hown, hb⟩ := hrel
    have hsz := hb.size
    clear hmk H0 HM
    by_cases hlt : k < s.size
    · have hc8 := UInt8.toNat_lt s[k]
      have e1 := wrap_byte s[k]
      have e2 := wrap8_div s[k]
      have e3 := wrap_mod s[k]
      have x1 : ∀ w, (Instr.index 9 (.string ⟨#[48, 49, 50, 51, 52, 53, 54, 55, 56, 57, 97, 98, 99, 100, 101, 102]⟩) (.int .u8 ((s[k].toNat : Int) / 16))).run Tryd.prog w = .ok (.int .u8 ((fig (s[k].toNat / 16)).toNat : Int)) w := by
        intro w; have := run_figures (s[k].toNat / 16) (by omega) w; simpa using this
      have x2 : ∀ w, (Instr.index 9 (.string ⟨#[48, 49, 50, 51, 52, 53, 54, 55, 56, 57, 97, 98, 99, 100, 101, 102]⟩) (.int .u8 ((s[k].toNat : Int) % 16))).run Tryd.prog w = .ok (.int .u8 ((fig (s[k].toNat % 16)).toNat : Int)) w := by
        intro w; have := run_figures (s[k].toNat % 16) (by omega) w; simpa using this
      go_wp2
      refine wp_region_head 11 (by kernel_rfl) (by kernel_rfl) (by kernel_rfl) (by decide) (fun _ d _ _ _ h => by cases d <;> exact h) ?_
      simp only [List.take_succ_cons, List.take_zero, List.drop_succ_cons, List.drop_zero]
      repeat (refine wpHead_some rfl ?_; apply Exists.intro; refine ⟨fun w => ?_, ?_⟩; (go_simp; with_reducible rfl))
      refine wpHead_nil ?_
      go_wp2_with (at_builtin; refine wpList_append_own _ rfl _ _ 22 rfl w.heap.size 5 i0 (.int .u8 0) 1 1 Tryd.underlying22 hi hz0 hz1 hz2 rfl (by decide) _ _ _ rfl ((hown.drew).alloc _) ⟨wr.heap.size, 0, none⟩ 2 2 [.int .u8 ((fig (s[k].toNat / 16)).toNat : Int), .int .u8 ((fig (s[k].toNat % 16)).toNat : Int)] rfl rfl ?c1 ?c2 ?c3 ?c4 ?c5 ?_)
      case c1 => exact two_new _ _ _ _
      case c2 => intro u hu; simp at hu; rcases hu with rfl | rfl <;> rfl
      case c3 => have := hexL_take s k; unfold maxLen; omega
      case c4 => have := hexL_take s k; omega
      case c5 => simp; omega
      · intro v' w1 hown' hgrow _
        have R := own_push2 (fig (s[k].toNat / 16)) (fig (s[k].toNat % 16)) rfl rfl ((hb.alloc hsz _).drew) (by simp; omega) hown hown' hgrow
        rw [← hexL_snoc, ← take_snoc s k hlt] at R
        clear hown hown' hgrow e1 e2 e3 x1 x2
        go_wp2
        go_roundw
        case rel => exact ⟨k + 1, by omega, by go_num, R.1, R.2⟩
        case measure => simp [intOf]; omega
    · rw [take_all s k hlt] at hown
      by_cases h0 : s.data.toList = []
      · have HC := own_string_nil (P := Tryd.prog) 22 9 5 Tryd.underlying22 Tryd.underlying5 Tryd.underlying9 (by rw [h0] at hown; exact hown)
        go_wp2
        go_ret2
        exact ⟨by rw [h0]; rfl, hb⟩
      · have HC := own_string (P := Tryd.prog) 22 9 5 Tryd.underlying22 Tryd.underlying5 Tryd.underlying9 hown (hexL_ne _ h0)
        clear h0
        go_wp2
        go_ret2
        exact ⟨rfl, hb⟩

theorem implHex_no (s : ByteArray) (w : World) (hs : 20000 < s.size) :
    Calls Tryd.prog 14 #[.string s] w fun e w' => e = .returned (.tuple #[.string ⟨#[]⟩, .bool false]) ∧ w' = w := by
  go_enter Tryd.func14, Tryd.ntmps14
  go_wp2
  go_ret2
  exact ⟨rfl, rfl⟩
end Go.Proofs.YtdabglemkpokpaaDoor
