/- laws.eqSignS; and both SignsOf at every text. -/
import Derived.Test.YtcmnjpoapcoghanDoorSgL
import Derived.Test.YtcmnjpoapcoghanDoorSgQ0
namespace Go.Proofs.YtcmnjpoapcoghanDoor
open Go.RowKit

set_option maxHeartbeats 4000000 in
set_option maxRecDepth 20000 in
theorem eq_signs (L : List Sg) (w : World) (B1 B2 : Nat) (va vb : Value) (ha : SgRow w B1 L va) (hb : SgRow w B2 L vb) (hL : L.length ≤ 1048576) :
    Calls Tryd.prog 6 #[va, vb] w fun e w' => e = .returned (.bool true) ∧ Below w.heap.size w w' := by
  obtain ⟨NL, hNL⟩ : ∃ NL, NL = L.length := ⟨_, rfl⟩
  by_cases h0 : L = []
  · subst h0
    obtain ⟨ao, cp, rfl, _, _⟩ := ha.shape
    obtain ⟨ao2, cp2, rfl, _, _⟩ := hb.shape
    clear ha hb hNL
    go_enter Tryd.func6, Tryd.ntmps6
    go_wp2
    refine wp_loop_rounds 1 ?_
    rw [rounds_succ]
    go_wp2
    go_ret
    exact ⟨rfl, Below.refl _ _⟩
  · obtain ⟨g1, cap1, rfl, _, hg1, hLc1, hcap1, _⟩ := ha.cells h0
    obtain ⟨g2, cap2, rfl, _, hg2, hLc2, hcap2, _⟩ := hb.cells h0
    rw [← hNL] at ha hb hLc1 hLc2 hL ⊢
    unfold maxLen at hcap1 hcap2
    have HA : Hid (SgRow w B1 L (.slice (some ⟨g1, 0, none⟩) NL cap1)) := ha
    have HBB : Hid (SgRow w B2 L (.slice (some ⟨g2, 0, none⟩) NL cap2)) := hb
    have HNL : Hid (L.length = NL) := hNL.symm
    clear ha hb hNL h0
    go_enter Tryd.func6, Tryd.ntmps6
    go_wp2
    go_loopw [5] (fun vi wr => ∃ j : Nat, j ≤ NL ∧ vi = .int .i64 (j : Int) ∧ Hid (Below w.heap.size w wr)) (fun vi _ => NL - (intOf vi).toNat)
    case atStart => exact ⟨0, Nat.zero_le _, rfl, Below.refl _ _⟩
    case round =>
      obtain ⟨j, hj, rfl, HB⟩ := hrel
      by_cases hlt : j < NL
      · have hjL : j < L.length := by have := HNL.out; omega
        obtain ⟨s, hs⟩ : ∃ s, s = L[j] := ⟨_, rfl⟩
        have HES := eq_sign s
        obtain ⟨k, x, n, a, b⟩ := s
        have HAT : Hid (∀ wr, Below w.heap.size w wr → (wr.cell? ⟨g1, j * 5, none⟩ = some (.int .i64 k) ∧ wr.cell? ⟨g1, j * 5 + 1, none⟩ = some (.string x) ∧ wr.cell? ⟨g1, j * 5 + 2, none⟩ = some (.int .i64 n) ∧ wr.cell? ⟨g1, j * 5 + 3, none⟩ = some (.int .i64 (a : Int)) ∧ wr.cell? ⟨g1, j * 5 + 4, none⟩ = some (.bool b)) ∧ (wr.cell? ⟨g2, j * 5, none⟩ = some (.int .i64 k) ∧ wr.cell? ⟨g2, j * 5 + 1, none⟩ = some (.string x) ∧ wr.cell? ⟨g2, j * 5 + 2, none⟩ = some (.int .i64 n) ∧ wr.cell? ⟨g2, j * 5 + 3, none⟩ = some (.int .i64 (a : Int)) ∧ wr.cell? ⟨g2, j * 5 + 4, none⟩ = some (.bool b))) := fun wr hb => by
          obtain ⟨q0, q1, q2, q3, q4, _⟩ := (HA.out.keep hb).at (j := j) HNL.out hlt
          obtain ⟨r0, r1, r2, r3, r4, _⟩ := (HBB.out.keep hb).at (j := j) HNL.out hlt
          rw [← hs] at q0 q1 q2 q3 q4 r0 r1 r2 r3 r4
          exact ⟨⟨q0, q1, q2, q3, q4⟩, r0, r1, r2, r3, r4⟩
        have HEQ : Hid (∀ w, Calls Tryd.prog 13 #[.agg #[.int .i64 k, .string x, .int .i64 n, .int .i64 (a : Int), .bool b], .agg #[.int .i64 k, .string x, .int .i64 n, .int .i64 (a : Int), .bool b]] w fun e w' => e = .returned (.bool true) ∧ Below w.heap.size w w') := HES
        clear HES hs
        go_upto_region 6 with fail
        refine wp_region_facts 9 (fun i v _ w' => match i with
          | 0 => v = .slice (some ⟨g1, 0, none⟩) NL cap1
          | 1 => v = .int .i64 (j : Int)
          | 2 => v = .pointer (some ⟨g1, j * 5, none⟩)
          | 3 => v = .agg #[.int .i64 k, .string x, .int .i64 n, .int .i64 (a : Int), .bool b]
          | 4 => v = .slice (some ⟨g2, 0, none⟩) NL cap2
          | 5 => v = .int .i64 (j : Int)
          | 6 => v = .pointer (some ⟨g2, j * 5, none⟩)
          | 7 => v = .agg #[.int .i64 k, .string x, .int .i64 n, .int .i64 (a : Int), .bool b]
          | _ => v = .bool true) (by kernel_rfl) (by kernel_rfl) 27 rfl (by kernel_rfl) ?_ ?_ ?_
        · intro i v S w w' hi h hb
          match i, hi, h with
          | 0, _, h => exact h
          | 1, _, h => exact h
          | 2, _, h => exact h
          | 3, _, h => exact h
          | 4, _, h => exact h
          | 5, _, h => exact h
          | 6, _, h => exact h
          | 7, _, h => exact h
          | 8, _, h => exact h
        · intro i o hi ho aa w' hb hfr hdep
          obtain ⟨⟨y0, y1, y2, y3, y4⟩, z0, z1, z2, z3, z4⟩ := HAT.out w' (HB.out.trans (hb.mono HB.out.size))
          have u0 : aa.tmps.getD 0 undef = .slice (some ⟨g1, 0, none⟩) NL cap1 := hfr 0 (by decide)
          have u1 : aa.tmps.getD 1 undef = .slice (some ⟨g2, 0, none⟩) NL cap2 := hfr 1 (by decide)
          have u5 : aa.tmps.getD 5 undef = .int .i64 (j : Int) := hfr 5 (by decide)
          match i, hi with
          | 0, _ =>
            obtain rfl : _ = o := by simpa using ho
            refine fact_value (w' := w') (v := .slice (some ⟨g1, 0, none⟩) NL cap1) ?_ (Below.refl _ _) ⟨[], rfl, by simp⟩
            simp only [execOp, Act.eval, u0]
            go_simp
          | 1, _ =>
            obtain rfl : _ = o := by simpa using ho
            refine fact_value (w' := w') (v := .int .i64 (j : Int)) ?_ (Below.refl _ _) ⟨[], rfl, by simp⟩
            simp only [execOp, Act.eval, u5]
            go_simp
          | 2, _ =>
            obtain rfl : _ = o := by simpa using ho
            obtain ⟨_, h0⟩ : ∃ _ : List Nat, aa.tmps.getD 17 undef = .slice (some ⟨g1, 0, none⟩) NL cap1 := hdep 0 (by kernel_rfl)
            obtain ⟨_, h1⟩ : ∃ _ : List Nat, aa.tmps.getD 18 undef = .int .i64 (j : Int) := hdep 1 (by kernel_rfl)
            refine fact_value (w' := w') (v := .pointer (some ⟨g1, j * 5, none⟩)) ?_ (Below.refl _ _) ⟨[], rfl, by simp⟩
            simp only [execOp, Act.eval, h0, h1]
            go_simp
          | 3, _ =>
            obtain rfl : _ = o := by simpa using ho
            obtain ⟨_, h0⟩ : ∃ _ : List Nat, aa.tmps.getD 19 undef = .pointer (some ⟨g1, j * 5, none⟩) := hdep 2 (by kernel_rfl)
            refine fact_value (w' := w') (v := .agg #[.int .i64 k, .string x, .int .i64 n, .int .i64 (a : Int), .bool b]) ?_ (Below.refl _ _) ⟨[], rfl, by simp⟩
            simp only [execOp, Act.eval, h0]
            go_simp
          | 4, _ =>
            obtain rfl : _ = o := by simpa using ho
            refine fact_value (w' := w') (v := .slice (some ⟨g2, 0, none⟩) NL cap2) ?_ (Below.refl _ _) ⟨[], rfl, by simp⟩
            simp only [execOp, Act.eval, u1]
            go_simp
          | 5, _ =>
            obtain rfl : _ = o := by simpa using ho
            refine fact_value (w' := w') (v := .int .i64 (j : Int)) ?_ (Below.refl _ _) ⟨[], rfl, by simp⟩
            simp only [execOp, Act.eval, u5]
            go_simp
          | 6, _ =>
            obtain rfl : _ = o := by simpa using ho
            obtain ⟨_, h0⟩ : ∃ _ : List Nat, aa.tmps.getD 21 undef = .slice (some ⟨g2, 0, none⟩) NL cap2 := hdep 4 (by kernel_rfl)
            obtain ⟨_, h1⟩ : ∃ _ : List Nat, aa.tmps.getD 22 undef = .int .i64 (j : Int) := hdep 5 (by kernel_rfl)
            refine fact_value (w' := w') (v := .pointer (some ⟨g2, j * 5, none⟩)) ?_ (Below.refl _ _) ⟨[], rfl, by simp⟩
            simp only [execOp, Act.eval, h0, h1]
            go_simp
          | 7, _ =>
            obtain rfl : _ = o := by simpa using ho
            obtain ⟨_, h0⟩ : ∃ _ : List Nat, aa.tmps.getD 23 undef = .pointer (some ⟨g2, j * 5, none⟩) := hdep 6 (by kernel_rfl)
            refine fact_value (w' := w') (v := .agg #[.int .i64 k, .string x, .int .i64 n, .int .i64 (a : Int), .bool b]) ?_ (Below.refl _ _) ⟨[], rfl, by simp⟩
            simp only [execOp, Act.eval, h0]
            go_simp
          | 8, _ =>
            obtain rfl : _ = o := by simpa using ho
            obtain ⟨_, h0⟩ : ∃ _ : List Nat, aa.tmps.getD 20 undef = .agg #[.int .i64 k, .string x, .int .i64 n, .int .i64 (a : Int), .bool b] := hdep 3 (by kernel_rfl)
            obtain ⟨_, h1⟩ : ∃ _ : List Nat, aa.tmps.getD 24 undef = .agg #[.int .i64 k, .string x, .int .i64 n, .int .i64 (a : Int), .bool b] := hdep 7 (by kernel_rfl)
            refine fact_call rfl Tryd.func13 (by kernel_rfl) (by kernel_rfl) (args := #[.agg #[.int .i64 k, .string x, .int .i64 n, .int .i64 (a : Int), .bool b], .agg #[.int .i64 k, .string x, .int .i64 n, .int .i64 (a : Int), .bool b]]) ?_ ?_
            · simp [Act.eval, h0, h1]
            · refine Calls.mono (HEQ.out w') ?_
              rintro e w4 ⟨rfl, hb4⟩
              exact ⟨_, rfl, hb4, [], rfl, by simp⟩
        intro vals S w1 hb hf _
        have h8 : vals 8 = .bool true := (hf 8 (by omega)).1
        have HB1 : Hid (Below w.heap.size w w1) := HB.out.trans (hb.mono HB.out.size)
        simp only [putN, List.getElem?_toArray, List.getElem?_cons_zero, List.getElem?_cons_succ, Option.bind_some, List.drop_succ_cons, List.drop_zero, h8]
        generalize vals 0 = m0
        generalize vals 1 = m1
        generalize vals 2 = m2
        generalize vals 3 = m3
        generalize vals 4 = m4
        generalize vals 5 = m5
        generalize vals 6 = m6
        generalize vals 7 = m7
        clear hf h8 hb HB HAT HEQ
        simp only [Act.put, List.setIfInBounds_toArray, List.set_cons_succ, List.set_cons_zero]
        go_wp2
        go_roundw
        case rel => exact ⟨j + 1, by omega, by go_num, HB1⟩
        case measure => simp [intOf]; omega
      · obtain rfl : j = NL := by omega
        go_wp2
        go_ret
        exact ⟨rfl, HB.out⟩

end Go.Proofs.YtcmnjpoapcoghanDoor
