/- Four texts in one. -/
import Derived.Test.YtenmhpalpfppmaoGreatDoorRows
import Derived.Test.YtenmhpalpfppmaoGreatDoorMrg2
import Derived.Test.YtenmhpalpfppmaoGreatDoorMrg8
/- spec.l03Name. -/
namespace Go.Proofs.YtenmhpalpfppmaoGreatDoor
open Go.RowKit

theorem specName (s : ByteArray) (hs : s.size ≤ maxLen) (w : World) :
    Calls Tryz.prog 48 #[.string s] w fun e w' => e = .returned (.bool (nameOk s)) ∧ w' = w := by
  unfold maxLen at hs
  go_enter Tryz.func48, Tryz.ntmps48
  go_wp2
  go_loopw [3] (fun i wr => wr = w ∧ ∃ k : Nat, k ≤ s.size ∧ i = .int .i64 (k : Int) ∧ Hid ((s.data.toList.take k).all charOk = true)) (fun i _ => s.size - (intOf i).toNat)
  case atStart => exact ⟨rfl, 0, by omega, rfl, by show _ = _; simp⟩
  case round =>
    obtain ⟨rfl, k, hk, rfl, hp⟩ := hrel
    by_cases hlt : k < s.size
    · have hc := s[k].toNat_lt
      by_cases hb : charOk s[k] = true
      · have hp' : Hid ((s.data.toList.take (k + 1)).all charOk = true) := by show _ = _; rw [take_at s k hlt, List.all_append, hp.out]; simp [hb]
        have h4 : 33 ≤ s[k].toNat ∧ s[k].toNat ≤ 126 ∧ s[k].toNat ≠ 39 ∧ s[k].toNat ≠ 34 := by
          unfold charOk at hb; simp at hb; omega
        obtain ⟨b1, b2, b3, b4⟩ := h4
        have e3 : ((s[k].toNat : Int) == 39) = false := beq_eq_false_iff_ne.2 (by omega)
        have e4 : ((s[k].toNat : Int) == 34) = false := beq_eq_false_iff_ne.2 (by omega)
        clear hp hb
        go_wp2
        go_roundw
        case rel => exact ⟨trivial, k + 1, by omega, by go_num, hp'⟩
        case measure => simp [intOf]; omega
      · have hf : nameOk s = false := by
          unfold nameOk
          rw [Bool.and_eq_false_iff]; left
          rw [List.all_eq_false]
          exact ⟨s[k], mem_s s k hlt, hb⟩
        have HF : Hid _ := hf
        have h4 : s[k].toNat < 33 ∨ (33 ≤ s[k].toNat ∧ 126 < s[k].toNat) ∨ s[k].toNat = 39 ∨ s[k].toNat = 34 := by
          unfold charOk at hb; simp at hb; omega
        clear hp hb hf
        rcases h4 with h4 | ⟨h4, h5⟩ | h4 | h4
        · go_wp2
          go_ret
          exact ⟨by rw [HF.out]; rfl, rfl⟩
        · go_wp2
          go_ret
          exact ⟨by rw [HF.out]; rfl, rfl⟩
        · go_wp2
          go_ret
          exact ⟨by rw [HF.out]; rfl, rfl⟩
        · go_wp2
          go_ret
          exact ⟨by rw [HF.out]; rfl, rfl⟩
    · have hf : nameOk s = decide ((1 : Int) ≤ (s.size : Int) ∧ (s.size : Int) ≤ 20) := by
        have := hp.out
        rw [List.take_of_length_le (by simp; omega)] at this
        unfold nameOk
        rw [this, Bool.true_and]
        congr 1
        apply propext
        omega
      have HF : Hid _ := hf
      clear hp hf
      go_wp2_with (go_at_call 47; refine (in_any _ _ _ _).mono ?_; rintro e w1 ⟨rfl, rfl⟩)
      go_ret
      exact ⟨by rw [HF.out, Bool.decide_and]; rfl, rfl⟩

end Go.Proofs.YtenmhpalpfppmaoGreatDoor

/- spec.l05Run, l05Quoted, l05End. -/
namespace Go.Proofs.YtenmhpalpfppmaoGreatDoor
open Go.RowKit

theorem c_run (t : ByteArray) (i : Nat) (hi : i ≤ t.size) (hs : (t.size : Int) ≤ 3000) (w : World) :
    Calls Tryz.prog 60 #[.string t, .int .i64 (i : Int)] w fun e w' => e = .returned (.int .i64 ((i + run t isWord i : Nat) : Int)) ∧ w' = w := by
  obtain ⟨R, hR⟩ : ∃ R, R = i + run t isWord i := ⟨_, rfl⟩
  rw [← hR]
  have H0 : Hid (i + run t isWord i = R) := hR.symm
  clear hR
  go_enter Tryz.func60, Tryz.ntmps60
  go_wp2
  go_loopw [1] (fun vi wr => wr = w ∧ ∃ j : Nat, j ≤ t.size ∧ vi = .int .i64 (j : Int) ∧ Hid (j + run t isWord j = R)) (fun i _ => t.size - (intOf i).toNat)
  case atStart => exact ⟨rfl, i, hi, rfl, H0⟩
  case round =>
    obtain ⟨rfl, j, hj, rfl, hp⟩ := hrel
    by_cases hlt : j < t.size
    · have hc := t[j].toNat_lt
      cases hw : isWord t[j] with
      | true =>
        have HW := c_word t[j]
        rw [hw] at HW
        have hp' : Hid (j + 1 + run t isWord (j + 1) = R) := by have := hp.out; rw [run_yes hlt hw] at this; show _ = _; omega
        clear hp H0 hw
        go_wp2_with (go_at_call 69; refine (HW _).mono ?_; rintro e w' ⟨rfl, rfl⟩)
        go_roundw
        case rel => exact ⟨trivial, j + 1, by omega, by go_num, hp'⟩
        case measure => simp [intOf]; omega
      | false =>
        have HW := c_word t[j]
        rw [hw] at HW
        obtain rfl : j = R := by have := hp.out; rw [run_no hlt hw] at this; omega
        clear hp H0 hw
        go_wp2_with (go_at_call 69; refine (HW _).mono ?_; rintro e w' ⟨rfl, rfl⟩)
        go_ret
        exact ⟨rfl, rfl⟩
    · obtain rfl : j = R := by have := hp.out; rw [run_end hlt] at this; omega
      clear hp H0
      go_wp2
      go_ret
      exact ⟨rfl, rfl⟩

def quotR (t : ByteArray) (i : Nat) : Nat := if i + 1 + run t not39 (i + 1) < t.size ∧ nameOk (t.extract (i + 1) (i + 1 + run t not39 (i + 1))) = true then i + run t not39 (i + 1) + 2 else 0

theorem c_quoted (t : ByteArray) (i : Nat) (hi : i < t.size) (hs : (t.size : Int) ≤ 3000) (w : World) :
    Calls Tryz.prog 62 #[.string t, .int .i64 (i : Int)] w fun e w' => e = .returned (.int .i64 (quotR t i : Nat)) ∧ w' = w := by
  obtain ⟨Q, hQ⟩ : ∃ Q, Q = i + 1 + run t not39 (i + 1) := ⟨_, rfl⟩
  have eR : quotR t i = if Q < t.size ∧ nameOk (t.extract (i + 1) Q) = true then Q + 1 else 0 := by
    unfold quotR; rw [← hQ]; split
    · omega
    · rfl
  rw [eR]
  have H0 : Hid (i + 1 + run t not39 (i + 1) = Q) := hQ.symm
  obtain ⟨V, hV⟩ : ∃ V, V = if Q < t.size ∧ nameOk (t.extract (i + 1) Q) = true then Q + 1 else 0 := ⟨_, rfl⟩
  rw [← hV]
  have HV : Hid (V = if Q < t.size ∧ nameOk (t.extract (i + 1) Q) = true then Q + 1 else 0) := hV
  clear hQ eR hV
  go_enter Tryz.func62, Tryz.ntmps62
  go_wp2
  go_loopw [5] (fun vi wr => wr = w ∧ ∃ j : Nat, i + 1 ≤ j ∧ j ≤ t.size ∧ vi = .int .i64 (j : Int) ∧ Hid (j + run t not39 j = Q)) (fun i _ => t.size - (intOf i).toNat)
  case atStart => exact ⟨rfl, i + 1, Nat.le_refl _, by omega, by go_num, H0⟩
  case round =>
    obtain ⟨rfl, j, hij, hj, rfl, hp⟩ := hrel
    by_cases hlt : j < t.size
    · have hc := t[j].toNat_lt
      by_cases h39 : t[j].toNat = 39
      · have hw : not39 t[j] = false := by unfold not39; simp [h39]
        obtain rfl : j = Q := by have := hp.out; rw [run_no hlt hw] at this; omega
        have HN : Hid (∀ w, Calls Tryz.prog 48 #[.string (t.extract (i + 1) j)] w fun e w' => e = .returned (.bool (nameOk (t.extract (i + 1) j))) ∧ w' = w) := specName _ (by rw [ByteArray.size_extract]; unfold maxLen; omega)
        have e0 : ((t[j].toNat : Int) == 39) = true := by rw [h39]; rfl
        cases hn : nameOk (t.extract (i + 1) j) with
        | true =>
          have HVV : Hid (V = j + 1) := by show _ = _; rw [HV.out, if_pos ⟨hlt, hn⟩]
          rw [hn] at HN
          clear hp H0 hw HV hn h39
          go_wp2_with (go_at_call 48; refine (HN.out _).mono ?_; rintro e w' ⟨rfl, rfl⟩)
          go_ret
          exact ⟨by rw [HVV.out]; rfl, rfl⟩
        | false =>
          have HVV : Hid (V = 0) := by show _ = _; rw [HV.out, if_neg (fun h => by rw [hn] at h; exact Bool.noConfusion h.2)]
          rw [hn] at HN
          clear hp H0 hw HV hn h39
          go_wp2_with (go_at_call 48; refine (HN.out _).mono ?_; rintro e w' ⟨rfl, rfl⟩)
          go_ret
          exact ⟨by rw [HVV.out]; rfl, rfl⟩
      · have hw : not39 t[j] = true := by unfold not39; simp [h39]
        have hp' : Hid (j + 1 + run t not39 (j + 1) = Q) := by have := hp.out; rw [run_yes hlt hw] at this; show _ = _; omega
        have e0 : ((t[j].toNat : Int) == 39) = false := beq_eq_false_iff_ne.2 (by omega)
        clear hp H0 hw HV h39
        go_wp2
        go_roundw
        case rel => exact ⟨trivial, j + 1, by omega, by omega, by go_num, hp'⟩
        case measure => simp [intOf]; omega
    · have HVV : Hid (V = 0) := by
        have := hp.out; rw [run_end hlt] at this
        show _ = _; rw [HV.out, if_neg (fun h => by omega)]
      clear hp H0 HV
      go_wp2
      go_ret
      exact ⟨by rw [HVV.out]; rfl, rfl⟩
end Go.Proofs.YtenmhpalpfppmaoGreatDoor

/- Where a text's end stands. Plain. -/
namespace Go.Proofs.YtenmhpalpfppmaoGreatDoor
open Go.RowKit

/-- the byte ahead is none of a sign, or there is none -/
def aheadOk (t : ByteArray) (i : Nat) : Prop := decide (i = 0) = true ∨ ∃ h0 : i - 1 < t.size, isSym t[i - 1] = false
theorem isEnd_no {t : ByteArray} {i : Nat} (hi : i < t.size) (h : t[i].toNat ≠ 46) : isEnd t i = false := by
  unfold isEnd; rw [at8_eq t i hi, decide_eq_false h]; rfl
theorem isEnd_ahead {t : ByteArray} {i : Nat} (h0 : i ≠ 0) (h1 : i - 1 < t.size) (h : isSym t[i - 1] = true) : isEnd t i = false := by
  unfold isEnd; rw [at8_eq t (i - 1) h1, h, decide_eq_false h0]; simp
theorem ahead_bool {t : ByteArray} {i : Nat} (h : aheadOk t i) : (decide (i = 0) || !isSym (at8 t (i - 1))) = true := by
  rcases h with h | ⟨h0, h⟩
  · rw [h]; rfl
  · rw [at8_eq t (i - 1) h0, h]; simp
theorem isEnd_last {t : ByteArray} {i : Nat} (hi : i < t.size) (h : t[i].toNat = 46) (ha : aheadOk t i) (he : i + 1 = t.size) : isEnd t i = true := by
  unfold isEnd; rw [at8_eq t i hi, ahead_bool ha, decide_eq_true h, decide_eq_true he]; rfl
theorem isEnd_mid {t : ByteArray} {i : Nat} (hi : i < t.size) (h : t[i].toNat = 46) (ha : aheadOk t i) (he : i + 1 < t.size) : isEnd t i = (isBlank t[i + 1] || decide (t[i + 1].toNat = 37)) := by
  unfold isEnd; rw [at8_eq t i hi, at8_eq t (i + 1) he, ahead_bool ha, decide_eq_true h, decide_eq_false (show ¬ i + 1 = t.size by omega)]; rfl

end Go.Proofs.YtenmhpalpfppmaoGreatDoor

/- spec.l05End. -/
namespace Go.Proofs.YtenmhpalpfppmaoGreatDoor
open Go.RowKit

set_option maxHeartbeats 1000000 in
theorem c_end (t : ByteArray) (i : Nat) (hi : i < t.size) (hs : (t.size : Int) ≤ 3000) (w : World) :
    Calls Tryz.prog 63 #[.string t, .int .i64 (i : Int)] w fun e w' => e = .returned (.bool (isEnd t i)) ∧ w' = w := by
  have hc := t[i].toNat_lt
  by_cases h46 : t[i].toNat = 46
  · have e0 : ((t[i].toNat : Int) == 46) = true := by rw [h46]; rfl
    have hA : aheadOk t i ∨ (i ≠ 0 ∧ ∃ h1 : i - 1 < t.size, isSym t[i - 1] = true) := by
      by_cases hi0 : i = 0
      · exact Or.inl (Or.inl (decide_eq_true hi0))
      · cases hh : isSym (t[i - 1]'(by omega)) with
        | false => exact Or.inl (Or.inr ⟨by omega, hh⟩)
        | true => exact Or.inr ⟨hi0, by omega, hh⟩
    rcases hA with hA | ⟨hi0, h1, hsy⟩
    · have HT : Hid (i + 1 = t.size ∧ isEnd t i = true ∨ ∃ hl : i + 1 < t.size, isEnd t i = (isBlank t[i + 1] || decide (t[i + 1].toNat = 37))) := by
        by_cases he : i + 1 = t.size
        · exact Or.inl ⟨he, isEnd_last hi h46 hA he⟩
        · exact Or.inr ⟨by omega, isEnd_mid hi h46 hA (by omega)⟩
      have HAA : Hid (((i : Int) == 0) = true ∨ (((i : Int) == 0) = false ∧ ∃ h1 : i - 1 < t.size, isSym t[i - 1] = false)) := by
        by_cases hi0 : i = 0
        · left; rw [hi0]; rfl
        · right
          rcases hA with h | h
          · exact absurd (of_decide_eq_true h) hi0
          · exact ⟨beq_eq_false_iff_ne.2 (by omega), h⟩
      clear h46 hA
      rcases HAA.out with ei | ⟨ei, h1, hsy⟩
      · clear HAA
        rcases HT.out with ⟨he, hr⟩ | ⟨hl, hr⟩
        · have HR : Hid (isEnd t i = true) := hr
          have e1 : ((i : Int) + 1 == (t.size : Int)) = true := by rw [← he]; simp
          clear he hr HT
          go_enter Tryz.func63, Tryz.ntmps63
          go_wp2
          go_ret
          exact ⟨by rw [HR.out]; rfl, rfl⟩
        · have e1 : ((i : Int) + 1 == (t.size : Int)) = false := beq_eq_false_iff_ne.2 (by omega)
          have HB := c_blank t[i + 1]
          have hc1 := t[i + 1].toNat_lt
          cases hbl : isBlank t[i + 1] with
          | true =>
            have HR : Hid (isEnd t i = true) := by show _ = _; rw [hr, hbl]; rfl
            rw [hbl] at HB
            clear hr hbl HT
            go_enter Tryz.func63, Tryz.ntmps63
            go_wp2_with (go_at_call 49; refine (HB _).mono ?_; rintro e w' ⟨rfl, rfl⟩)
            go_ret
            exact ⟨by rw [HR.out]; rfl, rfl⟩
          | false =>
            have HR : Hid (isEnd t i = decide (t[i + 1].toNat = 37)) := by show _ = _; rw [hr, hbl]; rfl
            rw [hbl] at HB
            clear hr hbl HT
            go_enter Tryz.func63, Tryz.ntmps63
            go_wp2_with (go_at_call 49; refine (HB _).mono ?_; rintro e w' ⟨rfl, rfl⟩)
            go_ret
            exact ⟨by rw [HR.out]; exact ret_b (by rw [Bool.eq_iff_iff]; simp; omega), rfl⟩
      · have h0 : i ≠ 0 := by intro h; rw [h] at ei; exact Bool.noConfusion ei
        obtain ⟨i', rfl⟩ : ∃ i', i = i' + 1 := ⟨i - 1, by omega⟩
        have h1' : i' < t.size := by omega
        have HS : Hid (∀ w, Calls Tryz.prog 64 #[.int .u8 (t[i'].toNat : Int)] w fun e w' => e = .returned (.bool false) ∧ w' = w) := fun w => by have := spec_sym t[i'] w; rw [show isSym t[i'] = false from hsy] at this; exact this
        have hc' := t[i'].toNat_lt
        clear HAA hsy h0 h1
        rcases HT.out with ⟨he, hr⟩ | ⟨hl, hr⟩
        · have HR : Hid (isEnd t (i' + 1) = true) := hr
          have e1 : ((i' : Int) + 1 + 1 == (t.size : Int)) = true := by rw [← he]; simp
          clear he hr HT
          go_enter Tryz.func63, Tryz.ntmps63
          go_wp2_with (go_at_call 64; refine (HS.out _).mono ?_; rintro e w' ⟨rfl, rfl⟩)
          go_ret
          exact ⟨by rw [HR.out]; rfl, rfl⟩
        · have e1 : ((i' : Int) + 1 + 1 == (t.size : Int)) = false := beq_eq_false_iff_ne.2 (by omega)
          have HB := c_blank t[i' + 1 + 1]
          have hc1 := t[i' + 1 + 1].toNat_lt
          cases hbl : isBlank t[i' + 1 + 1] with
          | true =>
            have HR : Hid (isEnd t (i' + 1) = true) := by show _ = _; rw [hr, hbl]; rfl
            rw [hbl] at HB
            clear hr hbl HT
            go_enter Tryz.func63, Tryz.ntmps63
            go_wp2_with (first | (go_at_call 64; refine (HS.out _).mono ?_; rintro e w' ⟨rfl, rfl⟩) | (go_at_call 49; refine (HB _).mono ?_; rintro e w' ⟨rfl, rfl⟩))
            go_ret
            exact ⟨by rw [HR.out]; rfl, rfl⟩
          | false =>
            have HR : Hid (isEnd t (i' + 1) = decide (t[i' + 1 + 1].toNat = 37)) := by show _ = _; rw [hr, hbl]; rfl
            rw [hbl] at HB
            clear hr hbl HT
            go_enter Tryz.func63, Tryz.ntmps63
            go_wp2_with (first | (go_at_call 64; refine (HS.out _).mono ?_; rintro e w' ⟨rfl, rfl⟩) | (go_at_call 49; refine (HB _).mono ?_; rintro e w' ⟨rfl, rfl⟩))
            go_ret
            exact ⟨by rw [HR.out]; exact ret_b (by rw [Bool.eq_iff_iff]; simp; omega), rfl⟩
    · obtain ⟨i', rfl⟩ : ∃ i', i = i' + 1 := ⟨i - 1, by omega⟩
      have h1' : i' < t.size := by omega
      have HR : Hid (isEnd t (i' + 1) = false) := isEnd_ahead hi0 h1 hsy
      have HS : Hid (∀ w, Calls Tryz.prog 64 #[.int .u8 (t[i'].toNat : Int)] w fun e w' => e = .returned (.bool true) ∧ w' = w) := fun w => by have := spec_sym t[i'] w; rw [show isSym t[i'] = true from hsy] at this; exact this
      have hc' := t[i'].toNat_lt
      have ei : (((i' + 1 : Nat) : Int) == 0) = false := beq_eq_false_iff_ne.2 (by omega)
      clear hsy hi0 h1 h46
      go_enter Tryz.func63, Tryz.ntmps63
      go_wp2_with (go_at_call 64; refine (HS.out _).mono ?_; rintro e w' ⟨rfl, rfl⟩)
      go_ret
      exact ⟨by rw [HR.out]; rfl, rfl⟩
  · have HR : Hid (isEnd t i = false) := isEnd_no hi h46
    have e0 : ((t[i].toNat : Int) == 46) = false := beq_eq_false_iff_ne.2 (by omega)
    go_enter Tryz.func63, Tryz.ntmps63
    go_wp2
    go_ret
    exact ⟨by rw [HR.out]; rfl, rfl⟩
end Go.Proofs.YtenmhpalpfppmaoGreatDoor
