/- spec.l05End. -/
import Derived.Test.YtbkjcccbjnehbanGreatDoorSgR
import Derived.Test.YtbkjcccbjnehbanGreatDoorSgE0
namespace Go.Proofs.YtbkjcccbjnehbanGreatDoor
open Go.RowKit

set_option maxHeartbeats 1000000 in
theorem c_end (t : ByteArray) (i : Nat) (hi : i < t.size) (hs : (t.size : Int) ≤ 3000) (w : World) :
    Calls Tryz.prog 39 #[.string t, .int .i64 (i : Int)] w fun e w' => e = .returned (.bool (isEnd t i)) ∧ w' = w := by
  have hc := t[i].toNat_lt
  by_cases h46 : t[i].toNat = 46
  · have e0 : ((t[i].toNat : Int) == 46) = true := by rw [h46]; rfl
    have hA : aheadOk t i ∨ (i ≠ 0 ∧ ∃ h1 : i - 1 < t.size, isSym t[i - 1] = true) := by
      by_cases hi0 : i = 0
      · exact Or.inl (Or.inl (decide_eq_true hi0))
      · cases hh : isSym (t[i - 1]'(by omega)) with
        | false => exact Or.inl (Or.inr ⟨by omega, hh⟩)
        | true => exact Or.inr ⟨hi0, by omega, hh⟩
    rcases hA with hA | ⟨hi0, h1, hsy⟩
    · have HT : Hid (i + 1 = t.size ∧ isEnd t i = true ∨ ∃ hl : i + 1 < t.size, isEnd t i = (isBlank t[i + 1] || decide (t[i + 1].toNat = 37))) := by
        by_cases he : i + 1 = t.size
        · exact Or.inl ⟨he, isEnd_last hi h46 hA he⟩
        · exact Or.inr ⟨by omega, isEnd_mid hi h46 hA (by omega)⟩
      have HAA : Hid (((i : Int) == 0) = true ∨ (((i : Int) == 0) = false ∧ ∃ h1 : i - 1 < t.size, isSym t[i - 1] = false)) := by
        by_cases hi0 : i = 0
        · left; rw [hi0]; rfl
        · right
          rcases hA with h | h
          · exact absurd (of_decide_eq_true h) hi0
          · exact ⟨beq_eq_false_iff_ne.2 (by omega), h⟩
      clear h46 hA
      rcases HAA.out with ei | ⟨ei, h1, hsy⟩
      · clear HAA
        rcases HT.out with ⟨he, hr⟩ | ⟨hl, hr⟩
        · have HR : Hid (isEnd t i = true) := hr
          have e1 : ((i : Int) + 1 == (t.size : Int)) = true := by rw [← he]; simp
          clear he hr HT
          go_enter Tryz.func39, Tryz.ntmps39
          go_wp2
          go_ret
          exact ⟨by rw [HR.out]; rfl, rfl⟩
        · have e1 : ((i : Int) + 1 == (t.size : Int)) = false := beq_eq_false_iff_ne.2 (by omega)
          have HB := c_blank t[i + 1]
          have hc1 := t[i + 1].toNat_lt
          cases hbl : isBlank t[i + 1] with
          | true =>
            have HR : Hid (isEnd t i = true) := by show _ = _; rw [hr, hbl]; rfl
            rw [hbl] at HB
            clear hr hbl HT
            go_enter Tryz.func39, Tryz.ntmps39
            go_wp2_with (go_at_call 23; refine (HB _).mono ?_; rintro e w' ⟨rfl, rfl⟩)
            go_ret
            exact ⟨by rw [HR.out]; rfl, rfl⟩
          | false =>
            have HR : Hid (isEnd t i = decide (t[i + 1].toNat = 37)) := by show _ = _; rw [hr, hbl]; rfl
            rw [hbl] at HB
            clear hr hbl HT
            go_enter Tryz.func39, Tryz.ntmps39
            go_wp2_with (go_at_call 23; refine (HB _).mono ?_; rintro e w' ⟨rfl, rfl⟩)
            go_ret
            exact ⟨by rw [HR.out]; exact ret_b (by rw [Bool.eq_iff_iff]; simp; omega), rfl⟩
      · have h0 : i ≠ 0 := by intro h; rw [h] at ei; exact Bool.noConfusion ei
        obtain ⟨i', rfl⟩ : ∃ i', i = i' + 1 := ⟨i - 1, by omega⟩
        have h1' : i' < t.size := by omega
        have HS : Hid (∀ w, Calls Tryz.prog 40 #[.int .u8 (t[i'].toNat : Int)] w fun e w' => e = .returned (.bool false) ∧ w' = w) := fun w => by have := spec_sym t[i'] w; rw [show isSym t[i'] = false from hsy] at this; exact this
        have hc' := t[i'].toNat_lt
        clear HAA hsy h0 h1
        rcases HT.out with ⟨he, hr⟩ | ⟨hl, hr⟩
        · have HR : Hid (isEnd t (i' + 1) = true) := hr
          have e1 : ((i' : Int) + 1 + 1 == (t.size : Int)) = true := by rw [← he]; simp
          clear he hr HT
          go_enter Tryz.func39, Tryz.ntmps39
          go_wp2_with (go_at_call 40; refine (HS.out _).mono ?_; rintro e w' ⟨rfl, rfl⟩)
          go_ret
          exact ⟨by rw [HR.out]; rfl, rfl⟩
        · have e1 : ((i' : Int) + 1 + 1 == (t.size : Int)) = false := beq_eq_false_iff_ne.2 (by omega)
          have HB := c_blank t[i' + 1 + 1]
          have hc1 := t[i' + 1 + 1].toNat_lt
          cases hbl : isBlank t[i' + 1 + 1] with
          | true =>
            have HR : Hid (isEnd t (i' + 1) = true) := by show _ = _; rw [hr, hbl]; rfl
            rw [hbl] at HB
            clear hr hbl HT
            go_enter Tryz.func39, Tryz.ntmps39
            go_wp2_with (first | (go_at_call 40; refine (HS.out _).mono ?_; rintro e w' ⟨rfl, rfl⟩) | (go_at_call 23; refine (HB _).mono ?_; rintro e w' ⟨rfl, rfl⟩))
            go_ret
            exact ⟨by rw [HR.out]; rfl, rfl⟩
          | false =>
            have HR : Hid (isEnd t (i' + 1) = decide (t[i' + 1 + 1].toNat = 37)) := by show _ = _; rw [hr, hbl]; rfl
            rw [hbl] at HB
            clear hr hbl HT
            go_enter Tryz.func39, Tryz.ntmps39
            go_wp2_with (first | (go_at_call 40; refine (HS.out _).mono ?_; rintro e w' ⟨rfl, rfl⟩) | (go_at_call 23; refine (HB _).mono ?_; rintro e w' ⟨rfl, rfl⟩))
            go_ret
            exact ⟨by rw [HR.out]; exact ret_b (by rw [Bool.eq_iff_iff]; simp; omega), rfl⟩
    · obtain ⟨i', rfl⟩ : ∃ i', i = i' + 1 := ⟨i - 1, by omega⟩
      have h1' : i' < t.size := by omega
      have HR : Hid (isEnd t (i' + 1) = false) := isEnd_ahead hi0 h1 hsy
      have HS : Hid (∀ w, Calls Tryz.prog 40 #[.int .u8 (t[i'].toNat : Int)] w fun e w' => e = .returned (.bool true) ∧ w' = w) := fun w => by have := spec_sym t[i'] w; rw [show isSym t[i'] = true from hsy] at this; exact this
      have hc' := t[i'].toNat_lt
      have ei : (((i' + 1 : Nat) : Int) == 0) = false := beq_eq_false_iff_ne.2 (by omega)
      clear hsy hi0 h1 h46
      go_enter Tryz.func39, Tryz.ntmps39
      go_wp2_with (go_at_call 40; refine (HS.out _).mono ?_; rintro e w' ⟨rfl, rfl⟩)
      go_ret
      exact ⟨by rw [HR.out]; rfl, rfl⟩
  · have HR : Hid (isEnd t i = false) := isEnd_no hi h46
    have e0 : ((t[i].toNat : Int) == 46) = false := beq_eq_false_iff_ne.2 (by omega)
    go_enter Tryz.func39, Tryz.ntmps39
    go_wp2
    go_ret
    exact ⟨by rw [HR.out]; rfl, rfl⟩
end Go.Proofs.YtbkjcccbjnehbanGreatDoor
