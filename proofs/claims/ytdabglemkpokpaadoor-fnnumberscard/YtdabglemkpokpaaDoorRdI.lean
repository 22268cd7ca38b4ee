/- The code's ReadDecimal reads rdRes. -/
import Derived.Test.YtdabglemkpokpaaDoorRows
import Derived.Test.YtdabglemkpokpaaDoorRdPlain
import Derived.WalkKit
import Derived.WalkSpells
import Derived.ProofKit
import Derived.OpenShut
namespace Go.Proofs.YtdabglemkpokpaaDoor
open Go.RowKit

set_option maxRecDepth 100000 in
set_option maxHeartbeats 2000000 in
theorem implRd_any (s : ByteArray) (w : World) (hs : s.size ≤ 1048576) :
    Calls Tryd.prog 9 #[.string s] w fun e w' => e = .returned (rdRes s.data.toList) ∧ w' = w := by
  go_enter Tryd.func9, Tryd.ntmps9
  go_wp2
  go_step3
  go_wp2
  go_step3
  go_wp2
  go_loop [4, 5, 6] (fun vn vi _ => ∃ i : Nat, i ≤ s.size ∧ vi = .int .i64 i ∧ vn = .int .i64 (numL (s.data.toList.take i) : Int) ∧ numL (s.data.toList.take i) ≤ 1000000000 ∧ Hid (Figs s i) ∧ Hid (0 < i → ∀ h : 0 < s.size, s[0].toNat = 48 → s.size = 1)) (fun _ vi _ => s.size - (intOf vi).toNat)
  case atStart => exact ⟨0, Nat.zero_le _, rfl, rfl, by simp [numL, numF], Figs.zero s, fun h => by omega⟩
  case round =>
    obtain ⟨i, hi, rfl, rfl, hb1, hF, hz⟩ := hrel
    by_cases hlt : i < s.size
    · have hc8 := UInt8.toNat_lt s[i]
      by_cases h1 : s[i].toNat < 48
      · have hf : Hid _ := rdRes_no (no_digit s i hlt (by omega))
        go_wp2
        all_goals
          go_ret2
          exact ⟨by rw [hf.out]; rfl, rfl⟩
      by_cases h2 : 57 < s[i].toNat
      · have hf : Hid _ := rdRes_no (no_digit s i hlt (by omega))
        go_wp2
        all_goals
          go_ret2
          exact ⟨by rw [hf.out]; rfl, rfl⟩
      by_cases hlead : s[i].toNat = 48 ∧ i = 0 ∧ 1 < s.size
      · obtain ⟨hl1, rfl, hl2⟩ := hlead
        have hf : Hid _ := rdRes_no (no_nought s hl2 hl1)
        have hb48 : ((s[0].toNat : Int) == 48) = true := beq_iff_eq.2 (by omega)
        clear hl1
        go_wp2
        all_goals
          go_ret2
          exact ⟨by rw [hf.out]; rfl, rfl⟩
      have hF' : Hid (Figs s (i + 1)) := hF.out.more hlt ⟨by omega, by omega⟩
      have hn : Hid _ := num_more hlt
      have hz' : Hid (0 < i + 1 → ∀ h : 0 < s.size, s[0].toNat = 48 → s.size = 1) := by
        intro _ h e
        by_cases h0 : i = 0
        · subst h0; omega
        · exact hz.out (by omega) h e
      clear hz hF
      have key : (((s[i].toNat : Int) == 48) = false) ∨ (((s[i].toNat : Int) == 48) = true ∧ ((i : Int) == 0) = false) ∨ (((s[i].toNat : Int) == 48) = true ∧ ((i : Int) == 0) = true ∧ ¬ 1 < s.size) := by
        by_cases e1 : s[i].toNat = 48
        · by_cases e2 : i = 0
          · exact Or.inr (Or.inr ⟨beq_iff_eq.2 (by omega), beq_iff_eq.2 (by omega), fun h => hlead ⟨e1, e2, h⟩⟩)
          · exact Or.inr (Or.inl ⟨beq_iff_eq.2 (by omega), beq_eq_false_iff_ne.2 (by omega)⟩)
        · exact Or.inl (beq_eq_false_iff_ne.2 (by omega))
      clear hlead
      by_cases hbig : 1000000000 < numL (s.data.toList.take (i + 1))
      · have hf : Hid _ := rdRes_no (no_big s (i + 1) hbig)
        rw [hn.out] at hbig
        clear hn hz' hF'
        rcases key with k1 | ⟨k1, k2⟩ | ⟨k1, k2, k3⟩
        all_goals
          go_wp2
          all_goals
            go_ret2
            exact ⟨by rw [hf.out]; rfl, rfl⟩
      · have hle : numL (s.data.toList.take (i + 1)) ≤ 1000000000 := by omega
        rw [hn.out] at hbig
        rcases key with k1 | ⟨k1, k2⟩ | ⟨k1, k2, k3⟩
        all_goals
          have HL : Hid _ := hle
          clear hle
          go_wp2
          go_round
          case rel => exact ⟨i + 1, by omega, by go_num, by rw [hn.out]; go_num, HL.out, hF', hz'⟩
          case measure => simp [intOf]; omega
    · obtain rfl : i = s.size := by omega
      rw [take_all s s.size hlt] at *
      have hd : Hid (∀ c ∈ s.data.toList, digit c) := by have := hF.out; unfold Figs at this; rwa [take_all s s.size (by omega)] at this
      by_cases h0 : 0 < s.size
      · have hf : Hid _ := rdRes_yes (l := s.data.toList) ⟨neat_at s h0 (hz.out h0 h0), hd.out, hb1⟩
        have hk : ((s.size : Int) == 0) = false := beq_eq_false_iff_ne.2 (by omega)
        clear hF hz hd
        go_wp2
        go_ret2
        exact ⟨by rw [hf.out]; rfl, rfl⟩
      · have hf : Hid _ := rdRes_no (no_empty s h0)
        have hk : ((s.size : Int) == 0) = true := beq_iff_eq.2 (by omega)
        clear hF hz hd
        go_wp2
        go_ret2
        exact ⟨by rw [hf.out]; rfl, rfl⟩
end Go.Proofs.YtdabglemkpokpaaDoor
