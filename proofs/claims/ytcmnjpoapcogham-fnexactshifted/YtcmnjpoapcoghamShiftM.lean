/- impl.mayShift. -/
import Derived.Test.YtcmnjpoapcoghamVarsI
import Derived.Test.YtcmnjpoapcoghamMrg4
namespace Go.Proofs.Ytcmnjpoapcogham
open Go.RowKit

theorem may_shift (t : Tm) (w : World) (v : Value) (F : List Nat) (b : Int) (hown : Own 28 w t v F) (hnd : F.Nodup) (hwt : t.wt ≤ 1048576) (hv : ∀ n ∈ t.vars [], 0 ≤ n ∧ n ≤ 99999) :
    Calls Try.prog 36 #[v, .int .i64 b] w fun e w' => e = .returned (.bool (decide (∀ n ∈ t.vars [], -n ≤ b ∧ b ≤ 99999 - n))) ∧ Below w.heap.size w w' := by
  obtain ⟨k, s, n, ao, len, cap, rfl⟩ := own_shape hown
  obtain ⟨W, hW⟩ : ∃ W, W = w.alloc (.cells #[.int .i64 k, .string s, .int .i64 n, .slice ao len cap] 28) := ⟨_, rfl⟩
  have bW : Below w.heap.size w W := by rw [hW]; exact (Below.refl _ _).alloc (Nat.le_refl _) _
  have HC := impl_vars t W _ F (Own.keep _ _ _ hown fun f hf => bW.block f (Own.lt _ _ _ hown f hf)) hnd hwt
  rw [hW] at HC
  replace HC : Hid _ := HC
  have HBW : Hid (Below w.heap.size w W) := bW
  obtain ⟨OUT, hOUT⟩ : ∃ OUT, OUT = t.vars [] := ⟨_, rfl⟩
  rw [← hOUT] at HC hv ⊢
  obtain ⟨R, hR⟩ : ∃ R, R = decide (∀ n ∈ OUT, -n ≤ b ∧ b ≤ 99999 - n) := ⟨_, rfl⟩
  rw [← hR]
  have HR : Hid (R = decide (∀ n ∈ OUT, -n ≤ b ∧ b ≤ 99999 - n)) := hR
  have HVV : Hid (∀ n ∈ OUT, 0 ≤ n ∧ n ≤ 99999) := hv
  clear hown hnd hwt hOUT hR bW hv
  go_enter Try.func36, Try.ntmps36
  go_wp2_with (go_at_call 59; refine (Calls.mono HC.out ?_); rintro e w1 ⟨vo, rfl, hr, hb⟩; rw [← hW] at hb; obtain ⟨a, c, rfl, h1, h2, h3⟩ := hr.open; have HB1 : Hid (Below w.heap.size w w1) := HBW.out.trans (hb.mono HBW.out.size); have H3 : Hid (∀ j (hj : j < OUT.length), ∃ g, a = some ⟨g, 0, none⟩ ∧ w1.cell? ⟨g, j, none⟩ = some (.int .i64 OUT[j])) := h3; unfold maxLen at h2; clear hr hb h3)
  clear HC hW
  go_loopw [10] (fun vi wr => ∃ (j : Nat), j ≤ OUT.length ∧ vi = .int .i64 (j : Int) ∧ Hid (∀ n ∈ OUT.take j, -n ≤ b ∧ b ≤ 99999 - n) ∧ wr = w1) (fun i _ => OUT.length - (intOf i).toNat)
  case atStart => exact ⟨0, by omega, rfl, (by show ∀ n ∈ OUT.take 0, _; simp), rfl⟩
  case round =>
    obtain ⟨j, hj, rfl, HN, rfl⟩ := hrel
    by_cases hlt : j < OUT.length
    · obtain ⟨g, rfl, hc⟩ := H3.out j hlt
      have hm := List.getElem_mem hlt
      obtain ⟨x, hx⟩ : ∃ x, x = OUT[j] := ⟨_, rfl⟩
      rw [← hx] at hc hm
      obtain ⟨hx0, hx1⟩ := HVV.out x hm
      have HT : Hid (OUT.take (j + 1) = OUT.take j ++ [x]) := by
        show _ = _
        rw [List.take_succ_eq_append_getElem hlt, hx]
      have HMX : Hid (x ∈ OUT) := hm
      clear hm hx
      by_cases q1 : b < -x
      · have HF : Hid (R = false) := by
          show R = false
          rw [HR.out]
          exact decide_eq_false fun h => by have := (h x HMX.out).1; omega
        go_wp2
        go_ret
        exact ⟨by rw [HF.out]; rfl, HB1.out⟩
      · by_cases q2 : 99999 - x < b
        · have HF : Hid (R = false) := by
            show R = false
            rw [HR.out]
            exact decide_eq_false fun h => by have := (h x HMX.out).2; omega
          go_wp2
          go_ret
          exact ⟨by rw [HF.out]; rfl, HB1.out⟩
        · have HN2 : Hid (∀ n ∈ OUT.take (j + 1), -n ≤ b ∧ b ≤ 99999 - n) := by
            intro n hn
            rw [HT.out] at hn
            rcases List.mem_append.1 hn with hn | hn
            · exact HN.out n hn
            · rw [List.mem_singleton] at hn; subst hn; exact ⟨by omega, by omega⟩
          go_wp2
          go_roundw
          case rel => exact ⟨j + 1, by omega, by go_num, HN2.out, by first | rfl | trivial⟩
          case measure => simp [intOf]; omega
    · have HT : Hid (R = true) := by
        show R = true
        rw [HR.out]
        refine decide_eq_true ?_
        have := HN.out
        rwa [List.take_of_length_le (by omega)] at this
      go_wp2
      go_ret
      exact ⟨by rw [HT.out]; rfl, HB1.out⟩
end Go.Proofs.Ytcmnjpoapcogham
