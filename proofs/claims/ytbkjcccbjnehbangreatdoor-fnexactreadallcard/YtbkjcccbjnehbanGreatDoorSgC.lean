/- spec: which bytes are of which kind. -/
import Derived.Test.YtbkjcccbjnehbanGreatDoorSgP
import Derived.BigCall
namespace Go.Proofs.YtbkjcccbjnehbanGreatDoor
open Go.RowKit

theorem c_small (c : UInt8) (w : World) : Calls Tryz.prog 34 #[.int .u8 (c.toNat : Int)] w fun e w' => e = .returned (.bool (isSmall c)) ∧ w' = w := by
  have hb := c.toNat_lt
  by_cases h : 97 ≤ c.toNat
  · by_cases h2 : c.toNat ≤ 122
    · have HR : Hid (isSmall c = true) := by show _ = _; unfold isSmall; exact decide_eq_true ⟨h, h2⟩
      go_enter Tryz.func34, Tryz.ntmps34
      go_wp2
      go_ret
      exact ⟨by rw [HR.out]; first | rfl | exact ret_b (decide_eq_true (by omega)) | exact ret_b (decide_eq_false (by omega)) | exact ret_b (beq_iff_eq.2 (by omega)) | exact ret_b (beq_eq_false_iff_ne.2 (by omega)), rfl⟩
    · have HR : Hid (isSmall c = false) := by show _ = _; unfold isSmall; exact decide_eq_false (fun x => h2 x.2)
      go_enter Tryz.func34, Tryz.ntmps34
      go_wp2
      go_ret
      exact ⟨by rw [HR.out]; first | rfl | exact ret_b (decide_eq_true (by omega)) | exact ret_b (decide_eq_false (by omega)) | exact ret_b (beq_iff_eq.2 (by omega)) | exact ret_b (beq_eq_false_iff_ne.2 (by omega)), rfl⟩
  · have HR : Hid (isSmall c = false) := by show _ = _; unfold isSmall; exact decide_eq_false (fun x => h x.1)
    go_enter Tryz.func34, Tryz.ntmps34
    go_wp2
    go_ret
    exact ⟨by rw [HR.out]; first | rfl | exact ret_b (decide_eq_true (by omega)) | exact ret_b (decide_eq_false (by omega)) | exact ret_b (beq_iff_eq.2 (by omega)) | exact ret_b (beq_eq_false_iff_ne.2 (by omega)), rfl⟩

theorem c_fig (c : UInt8) (w : World) : Calls Tryz.prog 37 #[.int .u8 (c.toNat : Int)] w fun e w' => e = .returned (.bool (isFig c)) ∧ w' = w := by
  have hb := c.toNat_lt
  by_cases h : 48 ≤ c.toNat
  · by_cases h2 : c.toNat ≤ 57
    · have HR : Hid (isFig c = true) := by show _ = _; unfold isFig; exact decide_eq_true ⟨h, h2⟩
      go_enter Tryz.func37, Tryz.ntmps37
      go_wp2
      go_ret
      exact ⟨by rw [HR.out]; first | rfl | exact ret_b (decide_eq_true (by omega)) | exact ret_b (decide_eq_false (by omega)) | exact ret_b (beq_iff_eq.2 (by omega)) | exact ret_b (beq_eq_false_iff_ne.2 (by omega)), rfl⟩
    · have HR : Hid (isFig c = false) := by show _ = _; unfold isFig; exact decide_eq_false (fun x => h2 x.2)
      go_enter Tryz.func37, Tryz.ntmps37
      go_wp2
      go_ret
      exact ⟨by rw [HR.out]; first | rfl | exact ret_b (decide_eq_true (by omega)) | exact ret_b (decide_eq_false (by omega)) | exact ret_b (beq_iff_eq.2 (by omega)) | exact ret_b (beq_eq_false_iff_ne.2 (by omega)), rfl⟩
  · have HR : Hid (isFig c = false) := by show _ = _; unfold isFig; exact decide_eq_false (fun x => h x.1)
    go_enter Tryz.func37, Tryz.ntmps37
    go_wp2
    go_ret
    exact ⟨by rw [HR.out]; first | rfl | exact ret_b (decide_eq_true (by omega)) | exact ret_b (decide_eq_false (by omega)) | exact ret_b (beq_iff_eq.2 (by omega)) | exact ret_b (beq_eq_false_iff_ne.2 (by omega)), rfl⟩

theorem c_great (c : UInt8) (w : World) : Calls Tryz.prog 35 #[.int .u8 (c.toNat : Int)] w fun e w' => e = .returned (.bool (isGreat c)) ∧ w' = w := by
  have hb := c.toNat_lt
  have hcs : (65 ≤ c.toNat ∧ c.toNat ≤ 90) ∨ c.toNat = 95 ∨ (c.toNat < 65 ∧ c.toNat ≠ 95) ∨ (65 ≤ c.toNat ∧ 90 < c.toNat ∧ c.toNat ≠ 95) := by omega
  rcases hcs with ⟨h, h2⟩ | h | ⟨h, h2⟩ | ⟨h, h2, h3⟩
  · have HR : Hid (isGreat c = true) := by show _ = _; unfold isGreat; exact decide_eq_true (Or.inl ⟨h, h2⟩)
    go_enter Tryz.func35, Tryz.ntmps35
    go_wp2
    go_ret
    exact ⟨by rw [HR.out]; first | rfl | exact ret_b (decide_eq_true (by omega)) | exact ret_b (decide_eq_false (by omega)) | exact ret_b (beq_iff_eq.2 (by omega)) | exact ret_b (beq_eq_false_iff_ne.2 (by omega)), rfl⟩
  · have HR : Hid (isGreat c = true) := by show _ = _; unfold isGreat; exact decide_eq_true (Or.inr h)
    go_enter Tryz.func35, Tryz.ntmps35
    go_wp2
    go_ret
    exact ⟨by rw [HR.out]; first | rfl | exact ret_b (decide_eq_true (by omega)) | exact ret_b (decide_eq_false (by omega)) | exact ret_b (beq_iff_eq.2 (by omega)) | exact ret_b (beq_eq_false_iff_ne.2 (by omega)), rfl⟩
  · have HR : Hid (isGreat c = false) := by show _ = _; unfold isGreat; exact decide_eq_false (by omega)
    have e1 : ((c.toNat : Int) == 95) = false := beq_eq_false_iff_ne.2 (by omega)
    go_enter Tryz.func35, Tryz.ntmps35
    go_wp2
    go_ret
    exact ⟨by rw [HR.out]; first | rfl | exact ret_b (decide_eq_true (by omega)) | exact ret_b (decide_eq_false (by omega)) | exact ret_b (beq_iff_eq.2 (by omega)) | exact ret_b (beq_eq_false_iff_ne.2 (by omega)), rfl⟩
  · have HR : Hid (isGreat c = false) := by show _ = _; unfold isGreat; exact decide_eq_false (by omega)
    have e1 : ((c.toNat : Int) == 95) = false := beq_eq_false_iff_ne.2 (by omega)
    go_enter Tryz.func35, Tryz.ntmps35
    go_wp2
    go_ret
    exact ⟨by rw [HR.out]; first | rfl | exact ret_b (decide_eq_true (by omega)) | exact ret_b (decide_eq_false (by omega)) | exact ret_b (beq_iff_eq.2 (by omega)) | exact ret_b (beq_eq_false_iff_ne.2 (by omega)), rfl⟩

theorem c_blank (c : UInt8) (w : World) : Calls Tryz.prog 23 #[.int .u8 (c.toNat : Int)] w fun e w' => e = .returned (.bool (isBlank c)) ∧ w' = w := by
  have hb := c.toNat_lt
  have hcs : c.toNat = 32 ∨ c.toNat = 9 ∨ c.toNat = 10 ∨ (c.toNat ≠ 32 ∧ c.toNat ≠ 9 ∧ c.toNat ≠ 10) := by omega
  rcases hcs with h | h | h | ⟨h, h2, h3⟩
  · have HR : Hid (isBlank c = true) := by show _ = _; unfold isBlank; exact decide_eq_true (by omega)
    go_enter Tryz.func23, Tryz.ntmps23
    go_wp2
    go_ret
    exact ⟨by rw [HR.out]; first | rfl | exact ret_b (decide_eq_true (by omega)) | exact ret_b (decide_eq_false (by omega)) | exact ret_b (beq_iff_eq.2 (by omega)) | exact ret_b (beq_eq_false_iff_ne.2 (by omega)), rfl⟩
  · have HR : Hid (isBlank c = true) := by show _ = _; unfold isBlank; exact decide_eq_true (by omega)
    go_enter Tryz.func23, Tryz.ntmps23
    go_wp2
    go_ret
    exact ⟨by rw [HR.out]; first | rfl | exact ret_b (decide_eq_true (by omega)) | exact ret_b (decide_eq_false (by omega)) | exact ret_b (beq_iff_eq.2 (by omega)) | exact ret_b (beq_eq_false_iff_ne.2 (by omega)), rfl⟩
  · have HR : Hid (isBlank c = true) := by show _ = _; unfold isBlank; exact decide_eq_true (by omega)
    go_enter Tryz.func23, Tryz.ntmps23
    go_wp2
    go_ret
    exact ⟨by rw [HR.out]; first | rfl | exact ret_b (decide_eq_true (by omega)) | exact ret_b (decide_eq_false (by omega)) | exact ret_b (beq_iff_eq.2 (by omega)) | exact ret_b (beq_eq_false_iff_ne.2 (by omega)), rfl⟩
  · have HR : Hid (isBlank c = false) := by show _ = _; unfold isBlank; exact decide_eq_false (by omega)
    have e1 : ((c.toNat : Int) == 32) = false := beq_eq_false_iff_ne.2 (by omega)
    have e2 : ((c.toNat : Int) == 9) = false := beq_eq_false_iff_ne.2 (by omega)
    have e3 : ((c.toNat : Int) == 10) = false := beq_eq_false_iff_ne.2 (by omega)
    go_enter Tryz.func23, Tryz.ntmps23
    go_wp2
    go_ret
    exact ⟨by rw [HR.out]; first | rfl | exact ret_b (decide_eq_true (by omega)) | exact ret_b (decide_eq_false (by omega)) | exact ret_b (beq_iff_eq.2 (by omega)) | exact ret_b (beq_eq_false_iff_ne.2 (by omega)), rfl⟩

theorem c_word (c : UInt8) (w : World) : Calls Tryz.prog 58 #[.int .u8 (c.toNat : Int)] w fun e w' => e = .returned (.bool (isWord c)) ∧ w' = w := by
  have HS := c_small c
  have HG := c_great c
  have HF := c_fig c
  have hw : isWord c = (isSmall c || isGreat c || isFig c) := rfl
  rw [hw]
  generalize isSmall c = a at *
  generalize isGreat c = b at *
  generalize isFig c = d at *
  clear hw
  cases a <;> cases b <;> cases d
  all_goals
    go_enter Tryz.func58, Tryz.ntmps58
    go_wp2_with (first | (go_at_call 34; refine (HS _).mono ?_; rintro e w' ⟨rfl, rfl⟩) | (go_at_call 35; refine (HG _).mono ?_; rintro e w' ⟨rfl, rfl⟩) | (go_at_call 37; refine (HF _).mono ?_; rintro e w' ⟨rfl, rfl⟩))
    go_ret
    exact ⟨rfl, rfl⟩
end Go.Proofs.YtbkjcccbjnehbanGreatDoor
