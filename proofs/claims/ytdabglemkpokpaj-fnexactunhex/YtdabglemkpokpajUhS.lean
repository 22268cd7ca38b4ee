/- The specification's Unhex reads unhexL. -/
import Derived.Test.YtdabglemkpokpajVarA
import Derived.Test.YtdabglemkpokpajUhPlain
namespace Go.Proofs.Ytdabglemkpokpaj
open Go.RowKit

theorem value_some (c : UInt8) (x : Nat) (w : World) (h : hv c = some x) :
    Calls Try.prog 23 #[.int .u8 (c.toNat : Int)] w fun e w' => e = .returned (.int .i64 (x : Int)) ∧ w' = w := by
  have hc := UInt8.toNat_lt c
  unfold hv at h
  by_cases h1 : 48 ≤ c.toNat ∧ c.toNat ≤ 57
  · rw [if_pos h1] at h
    cases h
    obtain ⟨h2, h3⟩ := h1
    go_enter Try.func23, Try.ntmps23
    go_wp2
    go_ret
    exact ⟨ret_int (by omega), rfl⟩
  · rw [if_neg h1] at h
    by_cases h2 : 97 ≤ c.toNat ∧ c.toNat ≤ 102
    · rw [if_pos h2] at h
      cases h
      obtain ⟨h3, h4⟩ := h2
      clear h1
      go_enter Try.func23, Try.ntmps23
      go_wp2
      go_ret
      exact ⟨ret_int (by omega), rfl⟩
    · rw [if_neg h2] at h; cases h

theorem value_none (c : UInt8) (w : World) (h : hv c = none) :
    Calls Try.prog 23 #[.int .u8 (c.toNat : Int)] w fun e w' => e = .returned (.int .i64 (-1)) ∧ w' = w := by
  have hc := UInt8.toNat_lt c
  have hr : c.toNat < 48 ∨ (57 < c.toNat ∧ c.toNat < 97) ∨ 102 < c.toNat := by
    unfold hv at h
    split at h
    · cases h
    · split at h
      · cases h
      · omega
  clear h
  rcases hr with h1 | ⟨h1, h2⟩ | h1
  all_goals
    go_enter Try.func23, Try.ntmps23
    go_wp2
    go_ret
    exact ⟨rfl, rfl⟩

theorem value_any (c : UInt8) (w : World) :
    Calls Try.prog 23 #[.int .u8 (c.toNat : Int)] w fun e w' => e = .returned (.int .i64 (hvI c)) ∧ w' = w := by
  unfold hvI
  cases hc : hv c with
  | none => exact value_none c w hc
  | some x => exact value_some c x w hc

set_option maxHeartbeats 1000000 in
theorem specUh_yes (s : ByteArray) (w : World) (hs : s.size ≤ 40000) (h2 : s.size % 2 = 0) :
    Calls Try.prog 16 #[.string s] w fun e w' => e = .returned (uhRes s.data.toList) ∧ Below w.heap.size w w' := by
  obtain ⟨i0, hi, hz0, hz1, hz2⟩ := info_parts info5
  have hmod : ((s.size : Int) % 2 != 0) = false := by rw [bne_eq_false_iff_eq]; omega
  go_enter Try.func16, Try.ntmps16
  go_wp2
  go_loopw [4, 5] (fun v i wr => ∃ (k : Nat) (p : List UInt8), k ≤ s.size ∧ k % 2 = 0 ∧ p.length ≤ k ∧ i = .int .i64 k ∧ Hid (unhexL s.data.toList = (unhexL (s.data.toList.drop k)).map fun t => p ++ t) ∧ wr.ownsRow w.heap.size 5 1 v p.length (bytesV p) ∧ Below w.heap.size w wr)
    (fun _ i _ => s.size - (intOf i).toNat)
  case atStart => exact ⟨0, [], Nat.zero_le _, rfl, Nat.le_refl _, rfl, by show _ = _; simp, own_fresh w _ (Nat.le_refl _), (Below.refl _ _).alloc (Nat.le_refl _) _⟩
  case round =>
    obtain ⟨k, p, hk, hk2, hpl, rfl, hp, hown, hb⟩ := hrel
    have hsz := hb.size
    by_cases hlt : k < s.size
    · have hlt1 : k + 1 < s.size := by omega
      by_cases ha : hvI s[k] < 0
      · have hf : Hid (uhRes s.data.toList = _) := uhRes_none (pre_no1 s k p hlt1 (hvI_neg ha) hp.out)
        clear hp
        go_wp2_with (go_at_call 23; refine (value_any _ _).mono ?_; rintro e w' ⟨rfl, rfl⟩)
        go_ret2
        exact ⟨by rw [hf.out]; rfl, hb⟩
      by_cases hbb : hvI s[k + 1] < 0
      · have hf : Hid (uhRes s.data.toList = _) := uhRes_none (pre_no2 s k p hlt1 (hvI_neg hbb) hp.out)
        clear hp
        go_wp2_with (go_at_call 23; refine (value_any _ _).mono ?_; rintro e w' ⟨rfl, rfl⟩)
        go_ret2
        exact ⟨by rw [hf.out]; rfl, hb⟩
      obtain ⟨hx, hx16⟩ := hvI_nat (show 0 ≤ hvI s[k] by omega)
      obtain ⟨hy, hy16⟩ := hvI_nat (show 0 ≤ hvI s[k + 1] by omega)
      have hq : Hid _ := pre_yes s k _ _ p hlt1 hx hy hp.out
      clear hp hx hy
      go_wp2_with (first | (go_at_call 23; refine (value_any _ _).mono ?_; rintro e w' ⟨rfl, rfl⟩) | (at_builtin; refine wpList_append_own _ rfl _ _ 34 rfl w.heap.size 5 i0 (.int .u8 0) 1 1 Try.underlying34 hi hz0 hz1 hz2 rfl (by decide) _ _ _ rfl (hown.alloc _) ⟨_, 0, none⟩ 1 1 [.int .u8 (16 * hvI s[k] + hvI s[k + 1])] rfl rfl ?c1 ?c2 ?c3 ?c4 ?c5 ?_))
      case c1 => exact cell_one_new _ _ _
      case c2 => intro u hu; simp at hu; subst hu; rfl
      case c3 => unfold maxLen; omega
      case c4 => omega
      case c5 => simp; omega
      · intro v' w1 hown' hgrow _
        have R := own_push (UInt8.ofNat (16 * (hvI s[k]).toNat + (hvI s[k + 1]).toNat)) (by simp; omega) hb hsz hown hown' hgrow
        clear hown hown' hgrow
        go_wp2
        go_roundw
        case rel => exact ⟨k + 2, _, by omega, by omega, by simp; omega, by go_num, hq, R.1, R.2⟩
        case measure => simp [intOf]; omega
    · have hf := pre_end s k p hlt hp.out
      have hF : Hid (uhRes s.data.toList = _) := uhRes_some hf
      by_cases h0 : p = []
      · subst h0
        have HC := own_string_nil (P := Try.prog) 34 9 5 Try.underlying34 Try.underlying5 Try.underlying9 hown
        clear hf hp
        go_wp2
        go_ret2
        exact ⟨by rw [hF.out]; rfl, hb⟩
      · have HC := own_string (P := Try.prog) 34 9 5 Try.underlying34 Try.underlying5 Try.underlying9 hown h0
        clear h0 hf hp
        go_wp2
        go_ret2
        exact ⟨by rw [hF.out]; rfl, hb⟩

theorem specUh_no (s : ByteArray) (w : World) (_hs : s.size ≤ 1048576) (h : 40000 < s.size ∨ s.size % 2 ≠ 0) :
    Calls Try.prog 16 #[.string s] w fun e w' => e = .returned (.tuple #[.string ⟨#[]⟩, .bool false]) ∧ w' = w := by
  by_cases h1 : 40000 < s.size
  · clear h
    go_enter Try.func16, Try.ntmps16
    go_wp2
    go_ret2
    exact ⟨rfl, rfl⟩
  · have hmod : ((s.size : Int) % 2 != 0) = true := by rw [bne_iff_ne]; omega
    clear h
    go_enter Try.func16, Try.ntmps16
    go_wp2
    go_ret2
    exact ⟨rfl, rfl⟩
end Go.Proofs.Ytdabglemkpokpaj
