/- spec.l04Walk: what a term stands for, 5000 times at most. -/
import Derived.Test.YtdcphfcenaafbamRows
import Derived.Test.YtdcphfcenaafbamWalkP
import Derived.Test.YtdcphfcenaafbamTmTo
import Derived.Test.YtdcphfcenaafbamBlk4
import Derived.Test.YtdcphfcenaafbamInAny
import Derived.ProofKit
namespace Go.Proofs.Ytdcphfcenaafbam
open Go.RowKit

theorem own_in_bounds {w : World} {t : Tm} {v : Value} (h : TmIn w t v) : -9223372036854775808 ≤ t.num ∧ t.num ≤ 9223372036854775807 := by
  obtain ⟨k, s, n, ks⟩ := t
  unfold TmIn at h
  obtain ⟨_, _, _, _, h2, _⟩ := h
  exact h2

theorem tmIn_shape {w : World} {t : Tm} {v : Value} (h : TmIn w t v) : ∃ s ao len cap, v = .agg #[.int .i64 t.kind, .string s, .int .i64 t.num, .slice ao len cap] := by
  obtain ⟨k, s, n, ks⟩ := t
  unfold TmIn at h
  obtain ⟨ao, cap, rfl, _⟩ := h
  exact ⟨_, _, _, _, rfl⟩

set_option maxHeartbeats 400000 in
set_option maxRecDepth 20000 in
theorem walk_spec (ks : List Tm) (t : Tm) (wz w : World) (hwz : Below wz.heap.size wz w) (sl v : Value) (hsl : ∃ ao cap, sl = .slice ao ks.length cap ∧ ks.length ≤ cap ∧ cap ≤ maxLen ∧ (ks ≠ [] → ∃ b off, ao = some ⟨b, off, none⟩ ∧ TmsIn wz ks b off)) (ht : TmIn wz t v) :
    Calls Try.prog 60 #[sl, v] w fun e w' => ∃ v', e = .returned v' ∧ TmIn wz (walkT ks 5000 t) v' ∧ Below w.heap.size w w' := by
  obtain ⟨ao, cap, rfl, hlen, hcap, hrow⟩ := hsl
  unfold maxLen at hcap
  obtain ⟨s, aok, lenk, capk, rfl⟩ := tmIn_shape ht
  obtain ⟨NN, hNN⟩ : ∃ NN : Nat, NN = 5000 := ⟨_, rfl⟩
  rw [← hNN]
  have HNN : Hid _ := hNN
  clear hNN
  obtain ⟨R, hR⟩ : ∃ R, R = walkT ks NN t := ⟨_, rfl⟩
  rw [← hR]
  have HST : Hid (∃ (u : Tm) (c1 c3 : Value), (w.alloc (.cells #[.int .i64 t.kind, .string s, .int .i64 t.num, .slice aok lenk capk] 28)).heap[w.heap.size]? = some (.cells #[.int .i64 u.kind, c1, .int .i64 u.num, c3] 28 (0, 0)) ∧ TmIn wz u (.agg #[.int .i64 u.kind, c1, .int .i64 u.num, c3]) ∧ walkT ks (NN - 0) u = R) :=
    ⟨t, _, _, alloc_at _ _ rfl, ht, hR.symm⟩
  have HROW : Hid _ := hrow
  have hb0 : Below w.heap.size w ((w.alloc (.cells #[.int .i64 t.kind, .string s, .int .i64 t.num, .slice aok lenk capk] 28)).alloc (.cells #[.int .i64 0, .string ⟨#[]⟩, .int .i64 0, .slice none 0 0] 28)) := ((Below.refl _ _).alloc (Nat.le_refl _) _).alloc (by simp) _
  have HB0 : Hid _ := hb0
  have HWZ : Hid (Below wz.heap.size wz w) := hwz
  clear ht hR hrow hb0 hwz
  go_enter Try.func60, Try.ntmps60
  go_wp2
  go_loopw [5] (fun vi wr => ∃ (i : Nat) (u : Tm) (c1 c3 : Value), Hid (i ≤ NN) ∧ vi = .int .i64 (i : Int) ∧ Hid (Below w.heap.size w wr) ∧ Hid (wr.heap[w.heap.size]? = some (.cells #[.int .i64 u.kind, c1, .int .i64 u.num, c3] 28 (0, 0))) ∧ Hid (wr.heap[w.heap.size + 1]? = some (.cells #[.int .i64 0, .string ⟨#[]⟩, .int .i64 0, .slice none 0 0] 28 (0, 0))) ∧ Hid (TmIn wz u (.agg #[.int .i64 u.kind, c1, .int .i64 u.num, c3])) ∧ Hid (walkT ks (NN - i) u = R)) (fun i _ => NN - (intOf i).toNat)
  case atStart =>
    obtain ⟨u, c1, c3, e1, e2, e3⟩ := HST.out
    exact ⟨0, u, c1, c3, Nat.zero_le _, rfl, HB0.out, (alloc_old _ _ (by simp)).trans e1, alloc_at _ _ (by simp), e2, e3⟩
  case round =>
    obtain ⟨i, u, c1, c3, HI, rfl, HB, HX, HZ, HT, HW⟩ := hrel
    obtain ⟨x0, x1, x2, x3, f0, f1, f2, f3⟩ := blk4 HX.out
    obtain ⟨y0, y1, y2, y3, z0, z1, z2, z3⟩ := blk4 HZ.out
    obtain ⟨n1, n2⟩ := own_in_bounds HT.out
    obtain ⟨s1, aou, lenu, capu, he⟩ := tmIn_shape HT.out
    obtain ⟨rfl, rfl⟩ : c1 = .string s1 ∧ c3 = .slice aou lenu capu := by simpa using he
    clear he
    by_cases hi5 : (i : Int) < 5000
    · have hlt5 : decide ((i : Int) < 5000) = true := decide_eq_true hi5
      have HI5 : Hid ((i : Int) < 5000) := hi5
      by_cases hk : u.kind = 1
      · by_cases hn : 0 ≤ u.num ∧ u.num < (ks.length : Int)
        · obtain ⟨j, hj⟩ : ∃ j : Nat, u.num = (j : Int) := ⟨u.num.toNat, by omega⟩
          have hlt : j < ks.length := by omega
          obtain ⟨b, off, rfl, hin⟩ := HROW.out (by intro e; subst e; simp at hlt)
          obtain ⟨d0, d1, d2, d3, g0, g1, g2, g3, gt⟩ := hin.at j hlt
          obtain ⟨s2, ao2, len2, cap2, he⟩ := tmIn_shape gt
          obtain ⟨rfl, rfl, rfl, rfl⟩ : d0 = .int .i64 ks[j].kind ∧ d1 = .string s2 ∧ d2 = .int .i64 ks[j].num ∧ d3 = .slice ao2 len2 cap2 := by simpa using he
          clear he hin
          have HNX : Hid (u.kind = 1 → u.num = (j : Int) → nextT ks u = if ks[j].kind = 0 then none else some ks[j]) := fun a b => nextT_at a b hlt
          generalize ks[j] = u2 at *
          replace g0 := cell_keep g0 (HWZ.out.trans (HB.out.mono HWZ.out.size))
          replace g1 := cell_keep g1 (HWZ.out.trans (HB.out.mono HWZ.out.size))
          replace g2 := cell_keep g2 (HWZ.out.trans (HB.out.mono HWZ.out.size))
          replace g3 := cell_keep g3 (HWZ.out.trans (HB.out.mono HWZ.out.size))
          have hd : decide (0 ≤ (j : Int) ∧ (j : Int) ≤ (ks.length : Int) - 1) = true := by simp; omega
          have HD : Hid _ := hd
          clear hd
          rw [hk] at x0
          rw [hj] at x2 hn
          have HKJ : Hid (u.kind = 1 ∧ u.num = (j : Int)) := ⟨hk, hj⟩
          clear hk hj n1 n2
          by_cases hz : u2.kind = 0
          · have HU : Hid (R = u) := by
              have h1 := HNX.out HKJ.out.1 HKJ.out.2
              rw [if_pos hz] at h1
              have h2 : walkT ks (NN - i) u = R := HW.out
              rw [walkT_none h1] at h2
              exact h2.symm
            have hz2 : (u2.kind == 0) = true := by simpa using hz
            clear hz HNX
            go_wp2_with (go_at_call 51; refine (Calls.mono (in_any _ _ _ _) ?_); rintro e w1 ⟨rfl, rfl⟩; rw [HD.out])
            have hT : TmIn wz u (.agg #[.int .i64 1, .string s1, .int .i64 (j : Int), .slice aou lenu capu]) := by
              have := HT.out
              rw [HKJ.out.1, HKJ.out.2] at this
              exact this
            refine bodyPost_ret_by (results_cell_row rfl _ _ (w.heap.size + 1) 28 _ (0, 0) _ rfl (blk4_set HZ.out) Try.underlying28 rfl (by kernel_rfl)) rfl ?_
            exact ⟨_, rfl, by rw [HU.out]; exact hT, blk4_below HB.out (by omega)⟩
          · have hz2 : (u2.kind == 0) = false := by simpa using hz
            have HWN : Hid (walkT ks (NN - (i + 1)) u2 = R) := by
              have h1 := HNX.out HKJ.out.1 HKJ.out.2
              rw [if_neg hz] at h1
              have h2 : walkT ks (NN - i) u = R := HW.out
              have h3 : NN = 5000 := HNN.out
              have h4 : (i : Int) < 5000 := HI5.out
              rw [show NN - i = (NN - (i + 1)) + 1 by omega, walkT_some h1] at h2
              exact h2
            clear hz HNX
            go_wp2_with (go_at_call 51; refine (Calls.mono (in_any _ _ _ _) ?_); rintro e w1 ⟨rfl, rfl⟩; rw [HD.out])
            have HI7 : Hid (i + 1 ≤ NN) := by
              have h4 : (i : Int) < 5000 := HI5.out
              have h3 : NN = 5000 := HNN.out
              show _ ≤ _
              omega
            go_roundw
            case rel => exact ⟨i + 1, u2, .string s2, .slice ao2 len2 cap2, HI7.out, by go_num, blk4_below HB.out (Nat.le_refl _), blk4_set HX.out, (blk4_other (by omega)).trans HZ.out, gt, HWN.out⟩
            case measure =>
              have h7 : i + 1 ≤ NN := HI7.out
              simp [intOf]
              omega
        · have HU : Hid (R = u) := by
            have h2 : walkT ks (NN - i) u = R := HW.out
            rw [walkT_none (nextT_out (by omega))] at h2
            exact h2.symm
          have hd : decide (0 ≤ u.num ∧ u.num ≤ (ks.length : Int) - 1) = false := by
            rw [decide_eq_false_iff_not]; omega
          have HD : Hid _ := hd
          have HK1 : Hid (u.kind = 1) := hk
          rw [hk] at x0
          clear hd hn hk
          go_wp2_with (go_at_call 51; refine (Calls.mono (in_any _ _ _ _) ?_); rintro e w1 ⟨rfl, rfl⟩; rw [HD.out])
          have hT : TmIn wz u (.agg #[.int .i64 1, .string s1, .int .i64 u.num, .slice aou lenu capu]) := by
            have := HT.out
            rw [HK1.out] at this
            exact this
          refine bodyPost_ret_by (results_cell_row rfl _ _ (w.heap.size + 1) 28 _ (0, 0) _ rfl (blk4_set HZ.out) Try.underlying28 rfl (by kernel_rfl)) rfl ?_
          exact ⟨_, rfl, by rw [HU.out]; exact hT, blk4_below HB.out (by omega)⟩
      · have HU : Hid (R = u) := by
          have h2 : walkT ks (NN - i) u = R := HW.out
          rw [walkT_none (nextT_kind hk)] at h2
          exact h2.symm
        clear n1 n2
        have hk2 : (u.kind != 1) = true := by simpa using hk
        go_wp2
        refine bodyPost_ret_by (results_cell_row rfl _ _ (w.heap.size + 1) 28 _ (0, 0) _ rfl (blk4_set HZ.out) Try.underlying28 rfl (by kernel_rfl)) rfl ?_
        exact ⟨_, rfl, by rw [HU.out]; exact HT.out, blk4_below HB.out (by omega)⟩
    · have HU : Hid (R = u) := by
        have h2 : walkT ks (NN - i) u = R := HW.out
        have h3 : NN = 5000 := HNN.out
        have h4 := HI.out
        rw [show NN - i = 0 by omega] at h2
        exact h2.symm
      go_wp2
      refine bodyPost_ret_by (results_cell_row rfl _ _ (w.heap.size + 1) 28 _ (0, 0) _ rfl (blk4_set HZ.out) Try.underlying28 rfl (by kernel_rfl)) rfl ?_
      exact ⟨_, rfl, by rw [HU.out]; exact HT.out, blk4_below HB.out (by omega)⟩
end Go.Proofs.Ytdcphfcenaafbam
