/- The specification's ReadDecimal reads rdRes. -/
import Derived.Test.YtdabglemkpokpakDec
import Derived.Test.YtdabglemkpokpakRdPlain
namespace Go.Proofs.Ytdabglemkpokpak
open Go.RowKit

theorem test_dec (s : ByteArray) (h : Figs s s.size) : (decB (numL s.data.toList) == s.toList) = true ↔ neat s.data.toList := by
  rw [ByteArray.toList_eq]
  exact dec_test _ (by have := h; unfold Figs at this; rwa [take_all s s.size (by omega)] at this)

set_option maxRecDepth 100000 in
set_option maxHeartbeats 1000000 in
theorem specRd_any (s : ByteArray) (w : World) (hs : s.size ≤ 1048576) :
    Calls Try.prog 4 #[.string s] w fun e w' => e = .returned (rdRes s.data.toList) ∧ Below w.heap.size w w' := by
  by_cases hg : 10 < s.size
  · have hf : Hid _ := rdRes_no (no_long s hg)
    go_enter Try.func4, Try.ntmps4
    go_wp2
    go_ret2
    exact ⟨by rw [hf.out]; rfl, Below.refl _ _⟩
  go_enter Try.func4, Try.ntmps4
  go_wp2
  go_loop [4, 5] (fun vn vi => ∃ i : Nat, i ≤ s.size ∧ vi = .int .i64 i ∧ vn = .int .i64 (numL (s.data.toList.take i) : Int) ∧ Hid (Figs s i)) (fun _ vi => s.size - (intOf vi).toNat)
  case atStart => exact ⟨0, Nat.zero_le _, rfl, rfl, Figs.zero s⟩
  case round =>
    obtain ⟨i, hi, rfl, rfl, hF⟩ := hrel
    have hb1 : numL (s.data.toList.take i) < 10000000000 := num_le hF.out hi 10 (by omega)
    by_cases hlt : i < s.size
    · have hc8 := UInt8.toNat_lt s[i]
      by_cases h1 : s[i].toNat < 48
      · have hf : Hid _ := rdRes_no (no_digit s i hlt (by omega))
        go_wp2
        go_ret2
        exact ⟨by rw [hf.out]; rfl, Below.refl _ _⟩
      by_cases h2 : 57 < s[i].toNat
      · have hf : Hid _ := rdRes_no (no_digit s i hlt (by omega))
        go_wp2
        go_ret2
        exact ⟨by rw [hf.out]; rfl, Below.refl _ _⟩
      have hF' : Hid (Figs s (i + 1)) := hF.out.more hlt ⟨by omega, by omega⟩
      have hn : Hid _ := num_more hlt
      go_wp2
      go_round
      case rel => exact ⟨i + 1, by omega, by go_num, by rw [hn.out]; go_num, hF'⟩
      case measure => simp [intOf]; omega
    · obtain rfl : i = s.size := by omega
      rw [take_all s s.size hlt] at *
      have ht : Hid _ := test_dec s hF.out
      have hd : Hid (∀ c ∈ s.data.toList, digit c) := by have := hF.out; unfold Figs at this; rwa [take_all s s.size (by omega)] at this
      by_cases hbig : 1000000000 < numL s.data.toList
      · have hf : Hid _ := rdRes_no (no_big s s.size (by rw [take_all s s.size (by omega)]; exact hbig))
        clear hF
        go_wp2_with (go_at_call 6; refine (dec_nat _ _ (by omega)).mono ?_; rintro e w1 ⟨rfl, hb⟩)
        go_ret2
        exact ⟨by rw [hf.out]; rfl, Below.refl _ _⟩
      · clear hF
        generalize hN : numL s.data.toList = N at *
        have HN : Hid _ := hN
        clear hN
        go_wp2_with (go_at_call 6; refine (dec_nat _ _ (by omega)).mono ?_; rintro e w1 ⟨rfl, hb⟩)
        · have h : 1000000000 < (N : Int) ∨ (!decB N == s.toList) = true := by assumption
          have hnn : ¬ neat s.data.toList := by
            intro hn
            have := ht.out.2 hn
            rcases h with h | h
            · omega
            · rw [this] at h; simp at h
          have hf := rdRes_no (l := s.data.toList) fun hr => hnn hr.1
          go_ret2
          exact ⟨by rw [hf]; rfl, by assumption⟩
        · have h : (N : Int) ≤ 1000000000 ∧ (!decB N == s.toList) = false := by assumption
          have hnn : neat s.data.toList := ht.out.1 (by simpa using h.2)
          have hf := rdRes_yes (l := s.data.toList) ⟨hnn, hd.out, by rw [HN.out]; omega⟩
          rw [HN.out] at hf
          go_ret2
          exact ⟨by rw [hf]; rfl, by assumption⟩
end Go.Proofs.Ytdabglemkpokpak
