/- spec.l05Run, l05Quoted, l05End. -/
import Derived.Test.YtbkjcccbjnehbanGreatDoorSgC
import Derived.Test.YtbkjcccbjnehbanGreatDoorSymS
import Derived.Test.YtbkjcccbjnehbanGreatDoorNameS
namespace Go.Proofs.YtbkjcccbjnehbanGreatDoor
open Go.RowKit

theorem c_run (t : ByteArray) (i : Nat) (hi : i ≤ t.size) (hs : (t.size : Int) ≤ 3000) (w : World) :
    Calls Tryz.prog 36 #[.string t, .int .i64 (i : Int)] w fun e w' => e = .returned (.int .i64 ((i + run t isWord i : Nat) : Int)) ∧ w' = w := by
  obtain ⟨R, hR⟩ : ∃ R, R = i + run t isWord i := ⟨_, rfl⟩
  rw [← hR]
  have H0 : Hid (i + run t isWord i = R) := hR.symm
  clear hR
  go_enter Tryz.func36, Tryz.ntmps36
  go_wp2
  go_loopw [1] (fun vi wr => wr = w ∧ ∃ j : Nat, j ≤ t.size ∧ vi = .int .i64 (j : Int) ∧ Hid (j + run t isWord j = R)) (fun i _ => t.size - (intOf i).toNat)
  case atStart => exact ⟨rfl, i, hi, rfl, H0⟩
  case round =>
    obtain ⟨rfl, j, hj, rfl, hp⟩ := hrel
    by_cases hlt : j < t.size
    · have hc := t[j].toNat_lt
      cases hw : isWord t[j] with
      | true =>
        have HW := c_word t[j]
        rw [hw] at HW
        have hp' : Hid (j + 1 + run t isWord (j + 1) = R) := by have := hp.out; rw [run_yes hlt hw] at this; show _ = _; omega
        clear hp H0 hw
        go_wp2_with (go_at_call 58; refine (HW _).mono ?_; rintro e w' ⟨rfl, rfl⟩)
        go_roundw
        case rel => exact ⟨trivial, j + 1, by omega, by go_num, hp'⟩
        case measure => simp [intOf]; omega
      | false =>
        have HW := c_word t[j]
        rw [hw] at HW
        obtain rfl : j = R := by have := hp.out; rw [run_no hlt hw] at this; omega
        clear hp H0 hw
        go_wp2_with (go_at_call 58; refine (HW _).mono ?_; rintro e w' ⟨rfl, rfl⟩)
        go_ret
        exact ⟨rfl, rfl⟩
    · obtain rfl : j = R := by have := hp.out; rw [run_end hlt] at this; omega
      clear hp H0
      go_wp2
      go_ret
      exact ⟨rfl, rfl⟩

def quotR (t : ByteArray) (i : Nat) : Nat := if i + 1 + run t not39 (i + 1) < t.size ∧ nameOk (t.extract (i + 1) (i + 1 + run t not39 (i + 1))) = true then i + run t not39 (i + 1) + 2 else 0

theorem c_quoted (t : ByteArray) (i : Nat) (hi : i < t.size) (hs : (t.size : Int) ≤ 3000) (w : World) :
    Calls Tryz.prog 38 #[.string t, .int .i64 (i : Int)] w fun e w' => e = .returned (.int .i64 (quotR t i : Nat)) ∧ w' = w := by
  obtain ⟨Q, hQ⟩ : ∃ Q, Q = i + 1 + run t not39 (i + 1) := ⟨_, rfl⟩
  have eR : quotR t i = if Q < t.size ∧ nameOk (t.extract (i + 1) Q) = true then Q + 1 else 0 := by
    unfold quotR; rw [← hQ]; split
    · omega
    · rfl
  rw [eR]
  have H0 : Hid (i + 1 + run t not39 (i + 1) = Q) := hQ.symm
  obtain ⟨V, hV⟩ : ∃ V, V = if Q < t.size ∧ nameOk (t.extract (i + 1) Q) = true then Q + 1 else 0 := ⟨_, rfl⟩
  rw [← hV]
  have HV : Hid (V = if Q < t.size ∧ nameOk (t.extract (i + 1) Q) = true then Q + 1 else 0) := hV
  clear hQ eR hV
  go_enter Tryz.func38, Tryz.ntmps38
  go_wp2
  go_loopw [5] (fun vi wr => wr = w ∧ ∃ j : Nat, i + 1 ≤ j ∧ j ≤ t.size ∧ vi = .int .i64 (j : Int) ∧ Hid (j + run t not39 j = Q)) (fun i _ => t.size - (intOf i).toNat)
  case atStart => exact ⟨rfl, i + 1, Nat.le_refl _, by omega, by go_num, H0⟩
  case round =>
    obtain ⟨rfl, j, hij, hj, rfl, hp⟩ := hrel
    by_cases hlt : j < t.size
    · have hc := t[j].toNat_lt
      by_cases h39 : t[j].toNat = 39
      · have hw : not39 t[j] = false := by unfold not39; simp [h39]
        obtain rfl : j = Q := by have := hp.out; rw [run_no hlt hw] at this; omega
        have HN : Hid (∀ w, Calls Tryz.prog 59 #[.string (t.extract (i + 1) j)] w fun e w' => e = .returned (.bool (nameOk (t.extract (i + 1) j))) ∧ w' = w) := specName _ (by rw [ByteArray.size_extract]; unfold maxLen; omega)
        have e0 : ((t[j].toNat : Int) == 39) = true := by rw [h39]; rfl
        cases hn : nameOk (t.extract (i + 1) j) with
        | true =>
          have HVV : Hid (V = j + 1) := by show _ = _; rw [HV.out, if_pos ⟨hlt, hn⟩]
          rw [hn] at HN
          clear hp H0 hw HV hn h39
          go_wp2_with (go_at_call 59; refine (HN.out _).mono ?_; rintro e w' ⟨rfl, rfl⟩)
          go_ret
          exact ⟨by rw [HVV.out]; rfl, rfl⟩
        | false =>
          have HVV : Hid (V = 0) := by show _ = _; rw [HV.out, if_neg (fun h => by rw [hn] at h; exact Bool.noConfusion h.2)]
          rw [hn] at HN
          clear hp H0 hw HV hn h39
          go_wp2_with (go_at_call 59; refine (HN.out _).mono ?_; rintro e w' ⟨rfl, rfl⟩)
          go_ret
          exact ⟨by rw [HVV.out]; rfl, rfl⟩
      · have hw : not39 t[j] = true := by unfold not39; simp [h39]
        have hp' : Hid (j + 1 + run t not39 (j + 1) = Q) := by have := hp.out; rw [run_yes hlt hw] at this; show _ = _; omega
        have e0 : ((t[j].toNat : Int) == 39) = false := beq_eq_false_iff_ne.2 (by omega)
        clear hp H0 hw HV h39
        go_wp2
        go_roundw
        case rel => exact ⟨trivial, j + 1, by omega, by omega, by go_num, hp'⟩
        case measure => simp [intOf]; omega
    · have HVV : Hid (V = 0) := by
        have := hp.out; rw [run_end hlt] at this
        show _ = _; rw [HV.out, if_neg (fun h => by omega)]
      clear hp H0 HV
      go_wp2
      go_ret
      exact ⟨by rw [HVV.out]; rfl, rfl⟩
end Go.Proofs.YtbkjcccbjnehbanGreatDoor
