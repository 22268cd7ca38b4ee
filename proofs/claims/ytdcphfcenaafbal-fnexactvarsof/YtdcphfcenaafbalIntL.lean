/- The laws' side of a row of numbers: the same, written into, still there. -/
import Derived.Test.YtdcphfcenaafbalVarsS
import Derived.Test.YtdcphfcenaafbalRowP
namespace Go.Proofs.Ytdcphfcenaafbal
open Go.RowKit

theorem eq_ints (out : List Int) (w : World) (B1 B2 : Nat) (va vb : Value) (ha : NumRow w B1 out va) (hb : NumRow w B2 out vb) :
    Calls Try.prog 22 #[va, vb] w fun e w' => e = .returned (.bool true) ∧ Below w.heap.size w w' := by
  obtain ⟨ao, ca, rfl, a1, a2, a3⟩ := ha.open
  obtain ⟨bo, cb, rfl, b1, b2, b3⟩ := hb.open
  unfold maxLen at a2 b2
  clear ha hb
  go_enter Try.func22, Try.ntmps22
  go_wp2
  go_loopw [5] (fun vi wr => ∃ (j : Nat), j ≤ out.length ∧ vi = .int .i64 (j : Int) ∧ Hid (Below w.heap.size w wr)) (fun i _ => out.length - (intOf i).toNat)
  case atStart => exact ⟨0, by omega, rfl, Below.refl _ _⟩
  case round =>
    obtain ⟨j, hj, rfl, HB⟩ := hrel
    by_cases hlt : j < out.length
    · obtain ⟨ga, rfl, ha⟩ := a3 j hlt
      obtain ⟨gb, rfl, hb⟩ := b3 j hlt
      generalize out[j] = x at ha hb
      have x0 : wr.drew.cell? ⟨ga, j, none⟩ = some (.int .i64 x) := cell_keep ha HB.out.drew
      have x1 : wr.drew.cell? ⟨gb, j, none⟩ = some (.int .i64 x) := cell_keep hb HB.out.drew
      have HB2 : Hid (Below w.heap.size w wr.drew) := HB.out.drew
      clear ha hb
      go_wp2
      go_region
      all_goals
        go_wp2
        go_roundw
        case rel => exact ⟨j + 1, by omega, by go_num, HB2.out⟩
        case measure => simp [intOf]; omega
    · go_wp2
      go_ret
      exact ⟨rfl, HB.out⟩

def marksN (c n : Nat) : List Int := (List.range n).map fun i => ((c + i : Nat) : Int)
def halfN (c : Nat) (out : List Int) (j : Nat) : List Int := marksN c j ++ out.drop j
theorem halfN_zero (c : Nat) (out : List Int) : halfN c out 0 = out := by simp [halfN, marksN]
theorem halfN_all (c : Nat) (out : List Int) : halfN c out out.length = marksN c out.length := by simp [halfN]
theorem halfN_len (c : Nat) (out : List Int) (j : Nat) (h : j ≤ out.length) : (halfN c out j).length = out.length := by simp [halfN, marksN]; omega
theorem halfN_step (c : Nat) (out : List Int) (j : Nat) (h : j < out.length) : (halfN c out j).set j ((c + j : Nat) : Int) = halfN c out (j + 1) := by
  unfold halfN
  rw [List.drop_eq_getElem_cons h, List.set_append_right _ _ (by simp [marksN])]
  have e : j - (marksN c j).length = 0 := by simp [marksN]
  rw [e, List.set_cons_zero]
  simp [marksN, List.range_succ]

theorem NumRow.set {w : World} {B g cap : Nat} {out : List Int} {j : Nat} {x : Int} (h : NumRow w B out (.slice (some ⟨g, 0, none⟩) out.length cap)) (hx : -9223372036854775808 ≤ x ∧ x ≤ 9223372036854775807) : NumRow (w.setCell ⟨g, j, none⟩ (.int .i64 x)) B (out.set j x) (.slice (some ⟨g, 0, none⟩) out.length cap) := by
  refine ⟨⟨by simp, ?_⟩, fun y hy => ?_⟩
  · rcases h.1.2 with ⟨h, _⟩ | ⟨g', cap', cur, h1, h2, h3, h4, h5, h6, h7⟩
    · cases h
    · cases h1
      refine Or.inr ⟨g, cap, cur.setIfInBounds j (.int .i64 x), by simp, h2, blk_set h3 _, by simpa using h4, h5, by simpa using h6, ?_⟩
      rw [Array.toList_setIfInBounds, List.take_set]
      have e : (out.set j x).length = out.length := by simp
      rw [e, h7]
      simp [List.map_set]
  · rcases List.mem_or_eq_of_mem_set hy with h' | h'
    · exact h.2 y h'
    · rw [h']; exact hx

set_option maxRecDepth 20000 in
theorem mark_ints (out : List Int) (w : World) (B c : Nat) (v : Value) (h : NumRow w B out v) (hc : c + out.length ≤ 2305843009213693952) :
    Calls Try.prog 24 #[v, .int .i64 (c : Int)] w fun e w' => e = .returned (.int .i64 ((c + out.length : Nat) : Int)) ∧ NumRow w' B (marksN c out.length) v ∧ Out v.ownBlock.toList w w' := by
  have h0 := h
  obtain ⟨ao, ca, rfl, a1, a2, a3⟩ := h.open
  unfold maxLen at a2
  have HN : Hid (NumRow w B (halfN c out 0) (.slice ao out.length ca)) := by rw [halfN_zero]; exact h0
  clear h h0
  go_enter Try.func24, Try.ntmps24
  go_wp2
  go_loopw [1, 5] (fun vk vi wr => ∃ (j : Nat), j ≤ out.length ∧ vi = .int .i64 (j : Int) ∧ vk = .int .i64 ((c + j : Nat) : Int) ∧ Hid (NumRow wr B (halfN c out j) (.slice ao out.length ca)) ∧ Hid (Out (Value.ownBlock (.slice ao out.length ca)).toList w wr)) (fun _ i _ => out.length - (intOf i).toNat)
  case atStart => exact ⟨0, by omega, rfl, rfl, HN.out, Out.refl _ _⟩
  case round =>
    obtain ⟨j, hj, rfl, rfl, HR, HO⟩ := hrel
    by_cases hlt : j < out.length
    · obtain ⟨g, rfl, _⟩ := a3 j hlt
      obtain ⟨x, hx⟩ : ∃ x, wr.cell? ⟨g, j, none⟩ = some x := by
        obtain ⟨ao2, c2, e, _, _, h3⟩ := HR.out.open
        obtain ⟨g2, e2, h4⟩ := h3 j (by rw [halfN_len _ _ _ hj]; exact hlt)
        simp at e
        rw [← e.1] at e2
        obtain rfl : g = g2 := by simpa using e2
        exact ⟨_, h4⟩
      have hint : ∃ y, x = .int .i64 y := by
        obtain ⟨ao2, c2, e, _, _, h3⟩ := HR.out.open
        obtain ⟨g2, e2, h4⟩ := h3 j (by rw [halfN_len _ _ _ hj]; exact hlt)
        simp at e
        rw [← e.1] at e2
        obtain rfl : g = g2 := by simpa using e2
        rw [hx] at h4
        exact ⟨_, by simpa using h4⟩
      obtain ⟨y, rfl⟩ := hint
      have hf : wr.frozen? ⟨g, j, none⟩ = false := by
        rcases HR.out.1.2 with ⟨h, _⟩ | ⟨g', c', cur, h1, _, h3, _⟩
        · cases h
        · simp at h1
          obtain rfl : g = g' := h1.1
          exact blk_frozen h3 j
      have hk : ((c + j : Nat) : Int) + 1 = ((c + (j + 1) : Nat) : Int) := by omega
      have hkb : ((c + j : Nat) : Int) ≤ 2305843009213693952 := by omega
      have hkb0 : 0 ≤ ((c + j : Nat) : Int) := by omega
      have HR2 : Hid (NumRow (wr.setCell ⟨g, j, none⟩ (.int .i64 ((c + j : Nat) : Int))) B (halfN c out (j + 1)) (.slice (some ⟨g, 0, none⟩) out.length ca)) := by
        have h1 := HR.out
        rw [← halfN_len c out j hj] at h1
        have h2 := h1.set (j := j) (x := ((c + j : Nat) : Int)) (by omega)
        rw [halfN_step c out j hlt, halfN_len c out j hj] at h2
        exact h2
      have HO2 : Hid (Out (Value.ownBlock (.slice (some ⟨g, 0, none⟩) out.length ca)).toList w (wr.setCell ⟨g, j, none⟩ (.int .i64 ((c + j : Nat) : Int)))) := HO.out.trans (Out.set (by simp [Value.ownBlock]) _ _ _)
      have HK : Hid (((c + j : Nat) : Int) + 1 = ((c + (j + 1) : Nat) : Int)) := hk
      clear hk
      generalize ((c + j : Nat) : Int) = kk at *
      clear HR HO
      go_wp2
      go_roundw
      case rel => exact ⟨j + 1, by omega, by go_num, by rw [HK.out], HR2.out, HO2.out⟩
      case measure => simp [intOf]; omega
    · obtain rfl : j = out.length := by omega
      have HF : Hid (NumRow wr B (marksN c out.length) (.slice ao out.length ca)) := by
        have := HR.out
        rwa [halfN_all] at this
      clear HR
      go_wp2
      go_ret
      exact ⟨rfl, HF.out, HO.out⟩

theorem held_ints (n : Nat) (w : World) (B c : Nat) (v : Value) (h : NumRow w B (marksN c n) v) (hc : c + n ≤ 2305843009213693952) :
    Calls Try.prog 25 #[v, .int .i64 (c : Int)] w fun e w' => e = .returned (.int .i64 ((c + n : Nat) : Int)) ∧ w' = w := by
  have hl : (marksN c n).length = n := by simp [marksN]
  obtain ⟨ao, ca, rfl, a1, a2, a3⟩ := h.open
  rw [hl] at a1 ⊢
  have HA : Hid (∀ j, j < n → ∃ g, ao = some ⟨g, 0, none⟩ ∧ w.cell? ⟨g, j, none⟩ = some (.int .i64 ((c + j : Nat) : Int))) := fun j hj => by
    obtain ⟨g, e, h1⟩ := a3 j (by rw [hl]; exact hj)
    exact ⟨g, e, by rw [h1]; simp [marksN]⟩
  unfold maxLen at a2
  clear h a3 hl
  go_enter Try.func25, Try.ntmps25
  go_wp2
  go_loopw [1, 5] (fun vk vi wr => ∃ (j : Nat), j ≤ n ∧ vi = .int .i64 (j : Int) ∧ vk = .int .i64 ((c + j : Nat) : Int) ∧ wr = w) (fun _ i _ => n - (intOf i).toNat)
  case atStart => exact ⟨0, by omega, rfl, rfl, rfl⟩
  case round =>
    obtain ⟨j, hj, rfl, rfl, rfl⟩ := hrel
    by_cases hlt : j < n
    · obtain ⟨g, rfl, hx⟩ := HA.out j hlt
      have HK : Hid (((c + j : Nat) : Int) + 1 = ((c + (j + 1) : Nat) : Int)) := by show _ = _; omega
      have hkb : ((c + j : Nat) : Int) ≤ 2305843009213693952 := by omega
      have hkb0 : 0 ≤ ((c + j : Nat) : Int) := by omega
      generalize ((c + j : Nat) : Int) = kk at *
      go_wp2
      go_roundw
      case rel => exact ⟨j + 1, by omega, by go_num, by rw [HK.out], by first | rfl | trivial⟩
      case measure => simp [intOf]; omega
    · obtain rfl : j = n := by omega
      go_wp2
      go_ret
      exact ⟨rfl, by first | rfl | trivial⟩
end Go.Proofs.Ytdcphfcenaafbal
