/- Four texts in one. -/
import Derived.Test.YtenmhpalpfppmaoDoorMrg4
import Derived.Test.YtenmhpalpfppmaoDoorMrg7
import Derived.Test.YtenmhpalpfppmaoDoorMrg8
import Derived.Test.YtenmhpalpfppmaoDoorMrg9
import Derived.Test.YtenmhpalpfppmaoDoorMrg6
import Derived.Deep.RegionWith
import Derived.Deep.DeepCutAuto
import Derived.Test.YtenmhpalpfppmaoDoorMrg2
import Derived.Test.YtenmhpalpfppmaoDoorRows
import Derived.Laws.MakeOwn
import Derived.ProofKit
import Derived.Laws.AppendOwn
/- spec.l08ClauseOfRaw. -/
namespace Go.Proofs.YtenmhpalpfppmaoDoor
open Go.RowKit

theorem tmIn_trueS (w : World) : TmIn w (.mk 2 cTrue 0 []) (.agg #[.int .i64 2, .string cTrue, .int .i64 0, .slice none 0 0]) :=
  ⟨none, 0, rfl, by omega, by omega, by show 4 ≤ maxLen; unfold maxLen; omega, Nat.le_refl _, Nat.zero_le _, fun h => absurd rfl h⟩
theorem tmIn_zeroS (w : World) : TmIn w zeroC (.agg #[.int .i64 0, .string ⟨#[]⟩, .int .i64 0, .slice none 0 0]) := Own.toIn _ _ _ (own_zero 0 w)
theorem below_hpS {w w' : World} (hb : Below w.heap.size w w') {g : Nat} {x : Obj} (h : w.heap[g]? = some x) : w'.heap[g]? = some x := (hb.block g (Array.getElem?_eq_some_iff.1 h).1).trans h
set_option maxHeartbeats 1000000 in
theorem s_atom (s : ByteArray) (w : World) : Calls Tryd.prog 44 #[.string s] w fun e w' => e = .returned (.agg #[.int .i64 2, .string s, .int .i64 0, .slice none 0 0]) ∧ Below w.heap.size w w' := by
  obtain ⟨W, hW⟩ : ∃ W, W = w.alloc (.cells #[.int .i64 0, .string ⟨#[]⟩, .int .i64 0, .slice none 0 0] 31) := ⟨_, rfl⟩
  have hz : W.heap[w.heap.size]? = some (.cells #[.int .i64 0, .string ⟨#[]⟩, .int .i64 0, .slice none 0 0] 31 (0, 0)) := by rw [hW]; exact heap_alloc_new _ _
  have HZ : Hid _ := hz
  have HB : Hid (Below w.heap.size w W) := by rw [hW]; exact (Below.refl _ _).alloc (Nat.le_refl _) _
  obtain ⟨c0, c1, c2, c3, f0, f1, f2, f3⟩ := blk4 hz
  clear hz
  go_enter Tryd.func44, Tryd.ntmps44
  go_upto_region 1 with fail
  rw [← hW]
  clear hW
  go_wp2
  refine bodyPost_ret_by (results_cell_row rfl _ _ w.heap.size 31 _ (0, 0) _ rfl (blk4_set HZ.out) Tryd.underlying31 rfl (by kernel_rfl)) rfl ?_
  exact ⟨rfl, blk4_below HB.out (Nat.le_refl _)⟩
/-- a clause, wherever it lies, and whether it is one -/
def ClIn (H B : Tm) (f : ByteArray) (b : Bool) (w : World) (e : Ending) (w' : World) : Prop :=
  ∃ k s n ao l c k' s' n' ao' l' c', e = .returned (.tuple #[.agg #[.int .i64 k, .string s, .int .i64 n, .slice ao l c, .int .i64 k', .string s', .int .i64 n', .slice ao' l' c', .string f], .bool b]) ∧
    TmIn w' H (.agg #[.int .i64 k, .string s, .int .i64 n, .slice ao l c]) ∧ TmIn w' B (.agg #[.int .i64 k', .string s', .int .i64 n', .slice ao' l' c']) ∧ Below w.heap.size w w'

set_option maxHeartbeats 8000000 in
set_option maxRecDepth 20000 in
theorem s_clauseRaw (t0 : Tm) (f : ByteArray) (v : Value) (w : World) (hin : TmIn w t0 v) :
    Calls Tryd.prog 27 #[v, .string f] w (ClIn (clH t0) (clBd t0) (clF t0 f) (clB t0) w) := by
  have HIN00 := hin
  obtain ⟨k, s, n, ks⟩ := t0
  unfold TmIn at hin
  obtain ⟨ao, cap, rfl, hk, hn, hs, hlen, hcap, hrow⟩ := hin
  obtain ⟨l, hl⟩ : ∃ l, l = ks.length := ⟨_, rfl⟩
  rw [← hl] at HIN00 hlen ⊢
  obtain ⟨t0, ht0⟩ : ∃ t0, t0 = Tm.mk k s n ks := ⟨_, rfl⟩
  rw [← ht0] at HIN00 ⊢
  have HIN0 : Hid (TmIn w t0 (.agg #[.int .i64 k, .string s, .int .i64 n, .slice ao l cap])) := HIN00
  obtain ⟨W, hW⟩ : ∃ W, W = (w.alloc (.cells #[.int .i64 k, .string s, .int .i64 n, .slice ao l cap] 31)).alloc (.cells #[.int .i64 0, .string ⟨#[]⟩, .int .i64 0, .slice none 0 0, .int .i64 0, .string ⟨#[]⟩, .int .i64 0, .slice none 0 0, .string ⟨#[]⟩] 36) := ⟨_, rfl⟩
  have bW : Below w.heap.size w W := by rw [hW]; exact ((Below.refl _ _).alloc (Nat.le_refl _) _).alloc (by simp) _
  have lW : W.heap.size = w.heap.size + 2 := by rw [hW]; simp
  have k1 : W.heap[w.heap.size]? = some (.cells #[.int .i64 k, .string s, .int .i64 n, .slice ao l cap] 31 (0, 0)) := by rw [hW]; exact (alloc_old _ _ (by simp)).trans (alloc_at _ _ rfl)
  have k2 : W.heap[w.heap.size + 1]? = some (.cells #[.int .i64 0, .string ⟨#[]⟩, .int .i64 0, .slice none 0 0, .int .i64 0, .string ⟨#[]⟩, .int .i64 0, .slice none 0 0, .string ⟨#[]⟩] 36 (0, 0)) := by rw [hW]; exact alloc_at _ _ (by simp)
  have HK : Hid (∀ w1, Below W.heap.size W w1 → w1.heap[w.heap.size]? = some (.cells #[.int .i64 k, .string s, .int .i64 n, .slice ao l cap] 31 (0, 0)) ∧ w1.heap[w.heap.size + 1]? = some (.cells #[.int .i64 0, .string ⟨#[]⟩, .int .i64 0, .slice none 0 0, .int .i64 0, .string ⟨#[]⟩, .int .i64 0, .slice none 0 0, .string ⟨#[]⟩] 36 (0, 0))) := fun w1 hb => ⟨(hb.block _ (by omega)).trans k1, (hb.block _ (by omega)).trans k2⟩
  have HOK0 := specOk t0 W _ (TmIn.keep bW _ _ HIN00)
  have HAT : Hid (∀ w1, Calls Tryd.prog 44 #[.string cTrue] w1 fun e w' => e = .returned (.agg #[.int .i64 2, .string cTrue, .int .i64 0, .slice none 0 0]) ∧ Below w1.heap.size w1 w') := fun w1 => s_atom cTrue w1
  have HIS0 : Hid (∀ w1, Calls Tryd.prog 45 #[.agg #[.int .i64 k, .string s, .int .i64 n, .slice ao l cap], .string ⟨#[58, 45]⟩, .int .i64 2] w1 fun e w' => e = .returned (.bool (isSB k s l ⟨#[58, 45]⟩ 2)) ∧ Below w1.heap.size w1 w') := fun w1 => s_isS k s n ao l cap ⟨#[58, 45]⟩ 2 w1
  have HBW : Hid (Below w.heap.size w W) := bW
  have HL : Hid (W.heap.size = w.heap.size + 2) := lW
  have HNO : Hid (clB t0 = false → ∀ d0 d1 d2 d3 d4 d5 d6 d7 d8 w1, Below w.heap.size w w1 → ClIn (clH t0) (clBd t0) (clF t0 f) (clB t0) w (.returned (.tuple #[.agg #[.int .i64 0, .string ⟨#[]⟩, .int .i64 0, .slice none 0 0, .int .i64 0, .string ⟨#[]⟩, .int .i64 0, .slice none 0 0, .string ⟨#[]⟩], .bool false])) (set9 w1 (w.heap.size + 1) d0 d1 d2 d3 d4 d5 d6 d7 d8)) := fun hc d0 d1 d2 d3 d4 d5 d6 d7 d8 w1 hb => by
    have e1 : clH t0 = zeroC := by unfold clH; rw [hc]; rfl
    have e2 : clBd t0 = zeroC := by unfold clBd; rw [hc]; rfl
    have e3 : clF t0 f = ⟨#[]⟩ := by unfold clF; rw [hc]; rfl
    rw [e1, e2, e3, hc]
    exact ⟨_, _, _, _, _, _, _, _, _, _, _, _, rfl, tmIn_zeroS _, tmIn_zeroS _, blk9_below hb (by omega)⟩
  have HYES : Hid (clB t0 = true → ∀ k s n ao l c k' s' n' ao' l' c' w1, TmIn w1 (cutC t0).1 (.agg #[.int .i64 k, .string s, .int .i64 n, .slice ao l c]) → TmIn w1 (cutC t0).2 (.agg #[.int .i64 k', .string s', .int .i64 n', .slice ao' l' c']) → Below w.heap.size w w1 →
      ClIn (clH t0) (clBd t0) (clF t0 f) (clB t0) w (.returned (.tuple #[.agg #[.int .i64 k, .string s, .int .i64 n, .slice ao l c, .int .i64 k', .string s', .int .i64 n', .slice ao' l' c', .string f], .bool true])) w1) := fun hc k s n ao l c k' s' n' ao' l' c' w1 h1 h2 h3 => by
    have e1 : clH t0 = (cutC t0).1 := by unfold clH; rw [hc]; rfl
    have e2 : clBd t0 = (cutC t0).2 := by unfold clBd; rw [hc]; rfl
    have e3 : clF t0 f = f := by unfold clF; rw [hc]; rfl
    rw [e1, e2, e3, hc]
    exact ⟨_, _, _, _, _, _, _, _, _, _, _, _, rfl, h1, h2, h3⟩
  have HROW : Hid (ks ≠ [] → ∃ b off, ao = some ⟨b, off, none⟩ ∧ TmsIn w ks b off) := hrow
  have HT0 : Hid (t0 = Tm.mk k s n ks ∧ l = ks.length) := ⟨ht0, hl⟩
  clear hrow ht0 hl hcap hlen hs hk hn
  cases hok : t0.ok with
  | false =>
    have HCB : Hid (clB t0 = false) := by show _ = _; unfold clB; rw [hok]; rfl
    rw [hok, hW] at HOK0
    have HOK : Hid _ := HOK0
    clear HOK0 hok HIN00 k1 k2 bW lW
    go_enter Tryd.func27, Tryd.ntmps27
    go_upto_region 2 with (go_at_call 43; refine (Calls.mono HOK.out ?_); rintro e w1 ⟨rfl, hb⟩; rw [← hW] at hb; have HB1 : Hid (Below W.heap.size W w1) := hb; clear hb)
    have hz := (HK.out w1 HB1.out).2
    have HZ : Hid _ := hz
    obtain ⟨⟨c0, c1, c2, c3, c4, c5, c6, c7, c8⟩, g0, g1, g2, g3, g4, g5, g6, g7, g8⟩ := blk9 hz
    clear hz hW
    go_wp2
    refine bodyPost_ret_by (results_ctx rfl _ _ (w.heap.size + 1) 36 _ (0, 0) _ rfl (blk9_set HZ.out) Tryd.underlying36 rfl (by kernel_rfl)) rfl ?_
    exact HNO.out HCB.out _ _ _ _ _ _ _ _ _ w1 (HBW.out.trans (HB1.out.mono HBW.out.size))
  | true =>
    have HOKT : Hid (t0.ok = true) := hok
    rw [hok, hW] at HOK0
    have HOK : Hid _ := HOK0
    clear HOK0 hok HIN00 k1 k2 bW lW
    go_enter Tryd.func27, Tryd.ntmps27
    go_upto_region 3 with (go_at_call 43; refine (Calls.mono HOK.out ?_); rintro e w1 ⟨rfl, hb⟩; rw [← hW] at hb; have HB1 : Hid (Below W.heap.size W w1) := hb; clear hb)
    clear hW
    refine wp_region_facts 5 (fun i v S w' => match i with
      | 0 => v = (.agg #[.int .i64 k, .string s, .int .i64 n, .slice ao l cap])
      | 1 => v = (.agg #[.int .i64 2, .string cTrue, .int .i64 0, .slice none 0 0])
      | 2 => v = (.string f)
      | 3 => v = (.agg #[.int .i64 k, .string s, .int .i64 n, .slice ao l cap, .int .i64 2, .string cTrue, .int .i64 0, .slice none 0 0, .string f])
      | _ => ∃ b, v = .pointer (some ⟨b, 0, none⟩) ∧ w'.heap[b]? = some (.cells #[.int .i64 0, .string ⟨#[]⟩, .int .i64 0, .slice none 0 0, .int .i64 0, .string ⟨#[]⟩, .int .i64 0, .slice none 0 0, .string ⟨#[]⟩] 36 (0, 0)) ∧ w1.heap.size ≤ b) (by kernel_rfl) (by kernel_rfl) 48 rfl (by kernel_rfl) ?_ ?_ ?_
    · intro i v S w w' hi h hb
      match i, hi, h with
      | 0, _, h => exact h
      | 1, _, h => exact h
      | 2, _, h => exact h
      | 3, _, h => exact h
      | 4, _, ⟨b, h1, h2, h3⟩ => exact ⟨b, h1, (hb.block b (Array.getElem?_eq_some_iff.1 h2).1).trans h2, h3⟩
    · intro i o hi ho a w' hb hfr hdep
      obtain ⟨q0, q1, q2, q3, _⟩ := blk4 (HK.out w' (HB1.out.trans (hb.mono HB1.out.size))).1
      have u1 : a.tmps.getD 1 undef = (.string f) := hfr 1 (by decide)
      have u2 : a.tmps.getD 2 undef = (.pointer (some ⟨w.heap.size, 0, none⟩)) := hfr 2 (by decide)
      match i, hi with
      | 0, _ =>
        obtain rfl : _ = o := by simpa using ho
        refine fact_value (w' := w') (v := (.agg #[.int .i64 k, .string s, .int .i64 n, .slice ao l cap])) ?_ (Below.refl _ _) ⟨[], rfl, by simp⟩
        simp only [execOp, Act.eval, u2]
        go_simp
      | 1, _ =>
        obtain rfl : _ = o := by simpa using ho
        refine fact_call rfl Tryd.func44 (by kernel_rfl) (by kernel_rfl) (args := #[.string cTrue]) ?_ ?_
        · simp [Act.eval, cTrue]
        · refine Calls.mono (HAT.out w') ?_
          rintro e w4 ⟨rfl, hb4⟩
          exact ⟨_, rfl, hb4, [], rfl, by simp⟩
      | 2, _ =>
        obtain rfl : _ = o := by simpa using ho
        refine fact_value (w' := w') (v := (.string f)) ?_ (Below.refl _ _) ⟨[], rfl, by simp⟩
        simp only [execOp, Act.eval, u1]
        go_simp
      | 3, _ =>
        obtain rfl : _ = o := by simpa using ho
        obtain ⟨_, h0⟩ : ∃ _ : List Nat, a.tmps.getD 11 undef = (.agg #[.int .i64 k, .string s, .int .i64 n, .slice ao l cap]) := hdep 0 (by kernel_rfl)
        obtain ⟨_, h1⟩ : ∃ _ : List Nat, a.tmps.getD 12 undef = (.agg #[.int .i64 2, .string cTrue, .int .i64 0, .slice none 0 0]) := hdep 1 (by kernel_rfl)
        obtain ⟨_, h2⟩ : ∃ _ : List Nat, a.tmps.getD 13 undef = (.string f) := hdep 2 (by kernel_rfl)
        have e9 : (#[((0 : Nat), Operand.tmp 11), (1, Operand.tmp 12), (2, Operand.tmp 13)].map fun x => (x.1, a.eval x.2)) = #[(0, .agg #[.int .i64 k, .string s, .int .i64 n, .slice ao l cap]), (1, .agg #[.int .i64 2, .string cTrue, .int .i64 0, .slice none 0 0]), (2, .string f)] := by
          have e1 := h0
          have e2 := h1
          have e3 := h2
          simp [Act.eval]
          exact ⟨by simpa using e1, by simpa using e2, by simpa using e3⟩
        refine fact_value (w' := w') (v := .agg #[.int .i64 k, .string s, .int .i64 n, .slice ao l cap, .int .i64 2, .string cTrue, .int .i64 0, .slice none 0 0, .string f]) ?_ (Below.refl _ _) ⟨[], rfl, by simp⟩
        clear hdep hfr ho
        simp only [execOp, e9]
        go_simp
      | 4, _ =>
        obtain rfl : _ = o := by simpa using ho
        refine fact_value (w' := w'.alloc (.cells #[.int .i64 0, .string ⟨#[]⟩, .int .i64 0, .slice none 0 0, .int .i64 0, .string ⟨#[]⟩, .int .i64 0, .slice none 0 0, .string ⟨#[]⟩] 36)) (v := .pointer (some ⟨w'.heap.size, 0, none⟩)) ?_ ((Below.refl _ _).alloc (Nat.le_refl _) _) ⟨[], ⟨w'.heap.size, rfl, heap_alloc_new _ _, hb.size⟩, by simp⟩
        simp only [execOp]
        go_simp
    intro vals S w2 hb hf _
    have e3 : vals 3 = .agg #[.int .i64 k, .string s, .int .i64 n, .slice ao l cap, .int .i64 2, .string cTrue, .int .i64 0, .slice none 0 0, .string f] := (hf 3 (by omega)).1
    obtain ⟨b6, e4, hk6, hb6⟩ := (hf 4 (by omega)).1
    simp only [putN, List.getElem?_toArray, List.getElem?_cons_zero, List.getElem?_cons_succ, Option.bind_some, List.drop_succ_cons, List.drop_zero, e3, e4]
    generalize vals 0 = m0
    generalize vals 1 = m1
    generalize vals 2 = m2
    simp only [Act.put, List.setIfInBounds_toArray, List.set_cons_succ, List.set_cons_zero]
    have HB2 : Hid (Below W.heap.size W w2) := HB1.out.trans (hb.mono HB1.out.size)
    have HB6 : Hid (w.heap.size + 2 ≤ b6) := by have := HB1.out.size; have := HL.out; show _ ≤ _; omega
    have HK6 : Hid _ := hk6
    obtain ⟨⟨c0, c1, c2, c3, c4, c5, c6, c7, c8⟩, g0, g1, g2, g3, g4, g5, g6, g7, g8⟩ := blk9 hk6
    clear hf e3 e4 hk6 hb hb6
    go_upto_region 4 with fail
    obtain ⟨U, hU⟩ : ∃ U, U = ((((((((w2.setCell ⟨b6, 0, none⟩ (.int .i64 k)).setCell ⟨b6, 1, none⟩ (.string s)).setCell ⟨b6, 2, none⟩ (.int .i64 n)).setCell ⟨b6, 3, none⟩ (.slice ao l cap)).setCell ⟨b6, 4, none⟩ (.int .i64 2)).setCell ⟨b6, 5, none⟩ (.string cTrue)).setCell ⟨b6, 6, none⟩ (.int .i64 0)).setCell ⟨b6, 7, none⟩ (.slice none 0 0)).setCell ⟨b6, 8, none⟩ (.string f) := ⟨_, rfl⟩
    have hU9 : U = set9 w2 b6 (.int .i64 k) (.string s) (.int .i64 n) (.slice ao l cap) (.int .i64 2) (.string cTrue) (.int .i64 0) (.slice none 0 0) (.string f) := hU
    rw [← hU]
    have u6 : U.heap[b6]? = some (.cells #[.int .i64 k, .string s, .int .i64 n, .slice ao l cap, .int .i64 2, .string cTrue, .int .i64 0, .slice none 0 0, .string f] 36 (0, 0)) := by rw [hU9]; exact blk9_set HK6.out
    have uB : Below (w.heap.size + 2) W U := by rw [hU9]; exact blk9_below (by have := HB2.out; rwa [HL.out] at this) HB6.out
    have HBU0 : Hid (Below W.heap.size W U) := by show Below _ _ _; rw [HL.out]; exact uB
    have HU60 : Hid _ := u6
    clear hU hU9 uB u6 c0 c1 c2 c3 c4 c5 c6 c7 c8 g0 g1 g2 g3 g4 g5 g6 g7 g8 HK6
    obtain ⟨q0, q1, q2, q3, _⟩ := blk4 (HK.out U HBU0.out).1
    have HIS1 := HIS0.out U
    cases hc : isSB k s l cIf 2 with
    | false =>
      have HCUT : Hid (t0.ok = true ∧ (Tm.mk 2 cTrue 0 []).ok = true ∧ clB t0 = mayB (predB t0)) := by
        refine ⟨HOKT.out, ok_true, ?_⟩
        have e := cutC_no (s := s) (ks := ks) n (by rw [← HT0.out.2]; exact hc)
        unfold clB; rw [HOKT.out, HT0.out.1, e]; rfl
      have hcut : cutC t0 = (t0, .mk 2 cTrue 0 []) := by rw [HT0.out.1]; exact cutC_no n (by rw [← HT0.out.2]; exact hc)
      rw [hcut] at HYES
      rw [show isSB k s l ⟨#[58, 45]⟩ 2 = false from hc] at HIS1
      have HIS : Hid _ := HIS1
      have HBU : Hid (Below w.heap.size w U) := HBW.out.trans (HBU0.out.mono HBW.out.size)
      have HU : Hid (∀ w', Below U.heap.size U w' → w'.heap[b6]? = some (.cells #[.int .i64 k, .string s, .int .i64 n, .slice ao l cap, .int .i64 2, .string cTrue, .int .i64 0, .slice none 0 0, .string f] 36 (0, 0)) ∧ w'.heap[w.heap.size + 1]? = some (.cells #[.int .i64 0, .string ⟨#[]⟩, .int .i64 0, .slice none 0 0, .int .i64 0, .string ⟨#[]⟩, .int .i64 0, .slice none 0 0, .string ⟨#[]⟩] 36 (0, 0)) ∧ TmIn w' t0 (.agg #[.int .i64 k, .string s, .int .i64 n, .slice ao l cap]) ∧ TmIn w' (.mk 2 cTrue 0 []) (.agg #[.int .i64 2, .string cTrue, .int .i64 0, .slice none 0 0])) := fun w' hb =>
        ⟨below_hpS hb HU60.out, (HK.out w' (HBU0.out.trans (hb.mono HBU0.out.size))).2, TmIn.keep (HBU.out.trans (hb.mono HBU.out.size)) _ _ HIN0.out, tmIn_trueS _⟩
      clear hc hcut HIS1
      go_upto_region 9 with (go_at_call 45; refine (Calls.mono HIS.out ?_); rintro e w3 ⟨rfl, hb⟩; have HB3 : Hid (Below U.heap.size U w3) := hb; clear hb)
      clear q0 q1 q2 q3
      have HBU3 : Hid (Below w.heap.size w w3) := HBU.out.trans (HB3.out.mono HBU.out.size)
      have HU3 : Hid (∀ w', Below w3.heap.size w3 w' → _) := fun w' hb => HU.out w' (HB3.out.trans (hb.mono HB3.out.size))
      have hokH : t0.ok = true := HCUT.out.1
      have HHD0 := s_head t0 w3 (.agg #[.int .i64 k, .string s, .int .i64 n, .slice ao l cap]) (HU3.out w3 (Below.refl _ _)).2.2.1 (by have := ok_wt hokH; omega)
      have HTB : Hid (∀ w', Below w3.heap.size w3 w' → Calls Tryd.prog 43 #[.agg #[.int .i64 2, .string cTrue, .int .i64 0, .slice none 0 0]] w' fun e w2 => e = .returned (.bool true) ∧ Below w'.heap.size w' w2) := fun w' hb => by
        have := specOk _ w' _ (HU3.out w' hb).2.2.2
        rwa [HCUT.out.2.1] at this
      obtain ⟨mb, hmb⟩ : ∃ mb, mb = mayB (predB t0) := ⟨_, rfl⟩
      rw [← hmb] at HHD0
      have HHD : Hid _ := HHD0
      have HCB : Hid (clB t0 = mb) := HCUT.out.2.2.trans hmb.symm
      obtain ⟨⟨x0, x1, x2, x3, x4, x5, x6, x7, x8⟩, _⟩ := blk9 (HU3.out w3 (Below.refl _ _)).1
      clear HHD0 hokH hmb
      cases mb with
      | false =>
        go_upto_region 10 with (go_at_call 46; refine (Calls.mono HHD.out ?_); rintro e w5 ⟨rfl, hb⟩; have HB5 : Hid (Below w3.heap.size w3 w5) := hb; clear hb)
        clear x0 x1 x2 x3 x4 x5 x6 x7 x8
        have hz := (HU3.out w5 HB5.out).2.1
        have HZ : Hid _ := hz
        obtain ⟨⟨cc0, cc1, cc2, cc3, cc4, cc5, cc6, cc7, cc8⟩, g0, g1, g2, g3, g4, g5, g6, g7, g8⟩ := blk9 hz
        clear hz
        go_wp2
        refine bodyPost_ret_by (results_ctx rfl _ _ (w.heap.size + 1) 36 _ (0, 0) _ rfl (blk9_set HZ.out) Tryd.underlying36 rfl (by kernel_rfl)) rfl ?_
        exact HNO.out HCB.out _ _ _ _ _ _ _ _ _ w5 (HBU3.out.trans (HB5.out.mono HBU3.out.size))
      | true =>
        go_upto_region 11 with (first
          | (go_at_call 46; refine (Calls.mono HHD.out ?_); rintro e w5 ⟨rfl, hb⟩; have HB5 : Hid (Below w3.heap.size w3 w5) := hb; obtain ⟨⟨y0, y1, y2, y3, y4, y5, y6, y7, y8⟩, _⟩ := blk9 (HU3.out w5 hb).1; have HTB5 : Hid _ := HTB.out w5 hb; clear hb)
          | (go_at_call 43; refine (Calls.mono HTB5.out ?_); rintro e w6 ⟨rfl, hb⟩; have HB6 : Hid (Below w3.heap.size w3 w6) := HB5.out.trans (hb.mono HB5.out.size); clear hb))
        clear x0 x1 x2 x3 x4 x5 x6 x7 x8
        try clear y0 y1 y2 y3 y4 y5 y6 y7 y8
        have hz := (HU3.out w6 HB6.out).2.1
        have HZ : Hid _ := hz
        obtain ⟨⟨cc0, cc1, cc2, cc3, cc4, cc5, cc6, cc7, cc8⟩, g0, g1, g2, g3, g4, g5, g6, g7, g8⟩ := blk9 hz
        obtain ⟨⟨x0, x1, x2, x3, x4, x5, x6, x7, x8⟩, _⟩ := blk9 (HU3.out w6 HB6.out).1
        clear hz
        go_wp2
        refine bodyPost_ret_by (results_ctx rfl _ _ (w.heap.size + 1) 36 _ (0, 0) _ rfl (blk9_set HZ.out) Tryd.underlying36 rfl (by kernel_rfl)) rfl ?_
        have hend : ∀ d0 d1 d2 d3 d4 d5 d6 d7 d8, Below w.heap.size w (set9 w6 (w.heap.size + 1) d0 d1 d2 d3 d4 d5 d6 d7 d8) := fun d0 d1 d2 d3 d4 d5 d6 d7 d8 => blk9_below (HBU3.out.trans (HB6.out.mono HBU3.out.size)) (by omega)
        refine HYES.out HCB.out _ _ _ _ _ _ _ _ _ _ _ _ _ ?_ ?_ (hend _ _ _ _ _ _ _ _ _)
        · exact TmIn.keep (hend _ _ _ _ _ _ _ _ _) _ _ HIN0.out
        · exact tmIn_trueS _
    | true =>
      obtain ⟨rfl, rfl, x, y, rfl⟩ := isSB_yes (by rw [HT0.out.2] at hc; exact hc)
      obtain rfl : l = 2 := HT0.out.2
      obtain ⟨kb, ko, rfl, hr⟩ := HROW.out (by simp)
      obtain ⟨⟨cx0, cx1, cx2, cx3, hx0, hx1, hx2, hx3, tx⟩, ⟨cy0, cy1, cy2, cy3, hy0, hy1, hy2, hy3, ty⟩, _⟩ := hr
      obtain ⟨k0, s0, n0, a0, l0, c0, ex⟩ := tm_shape tx
      obtain ⟨kk, s1, n1, a1, l1, c1, ey⟩ := tm_shape ty
      obtain ⟨rfl, rfl, rfl, rfl⟩ : cx0 = .int .i64 k0 ∧ cx1 = .string s0 ∧ cx2 = .int .i64 n0 ∧ cx3 = .slice a0 l0 c0 := by simpa using ex
      obtain ⟨rfl, rfl, rfl, rfl⟩ : cy0 = .int .i64 kk ∧ cy1 = .string s1 ∧ cy2 = .int .i64 n1 ∧ cy3 = .slice a1 l1 c1 := by simpa using ey
      have HKD : Hid (y.kd = kk) := by
        obtain ⟨k9, s9, n9, ks9⟩ := y
        unfold TmIn at ty
        obtain ⟨ao9, cap9, e9, _⟩ := ty
        have : kk = k9 ∧ s1 = s9 ∧ n1 = n9 ∧ a1 = ao9 ∧ l1 = ks9.length ∧ c1 = cap9 := by simpa using e9
        exact this.1.symm
      have HCUT0 : Hid (cutC t0 = (x, if y.kd = 1 then .mk 4 cCall 0 [y] else y)) := by show _ = _; rw [HT0.out.1]; exact cutC_yes n x y
      have hkbl : kb < w.heap.size := cell_blk hx0
      have HR : Hid (∀ w1, Below w.heap.size w w1 → w1.cell? ⟨kb, ko, none⟩ = some (.int .i64 k0) ∧ w1.cell? ⟨kb, ko + 1, none⟩ = some (.string s0) ∧ w1.cell? ⟨kb, ko + 2, none⟩ = some (.int .i64 n0) ∧ w1.cell? ⟨kb, ko + 3, none⟩ = some (.slice a0 l0 c0) ∧ w1.cell? ⟨kb, ko + 4, none⟩ = some (.int .i64 kk) ∧ w1.cell? ⟨kb, ko + 4 + 1, none⟩ = some (.string s1) ∧ w1.cell? ⟨kb, ko + 4 + 2, none⟩ = some (.int .i64 n1) ∧ w1.cell? ⟨kb, ko + 4 + 3, none⟩ = some (.slice a1 l1 c1)) := fun w1 hb =>
        ⟨cell_keep hx0 hb, cell_keep hx1 hb, cell_keep hx2 hb, cell_keep hx3 hb, cell_keep hy0 hb, cell_keep hy1 hb, cell_keep hy2 hb, cell_keep hy3 hb⟩
      have HTX : Hid (TmIn w x (.agg #[.int .i64 k0, .string s0, .int .i64 n0, .slice a0 l0 c0])) := tx
      have HTY : Hid (TmIn w y (.agg #[.int .i64 kk, .string s1, .int .i64 n1, .slice a1 l1 c1])) := ty
      have hne1 : kb ≠ b6 := by have := HB6.out; omega
      have hne2 : w.heap.size ≠ b6 := by have := HB6.out; omega
      have HNE : Hid (kb ≠ b6 ∧ w.heap.size + 1 ≠ b6 ∧ w.heap.size + 2 ≤ b6) := ⟨hne1, by have := HB6.out; omega, HB6.out⟩
      rw [show isSB 4 cIf 2 ⟨#[58, 45]⟩ 2 = true from hc] at HIS1
      have HIS : Hid _ := HIS1
      have HBU : Hid (Below w.heap.size w U) := HBW.out.trans (HBU0.out.mono HBW.out.size)
      clear hx0 hx1 hx2 hx3 hy0 hy1 hy2 hy3 tx ty ex ey hkbl hc HIS1
      go_upto_region 5 with (go_at_call 45; refine (Calls.mono HIS.out ?_); rintro e w3 ⟨rfl, hb⟩; have HB3 : Hid (Below U.heap.size U w3) := hb; clear hb)
      clear q0 q1 q2 q3
      have hB3 := HBU.out.trans (HB3.out.mono HBU.out.size)
      have hW3 := HBU0.out.trans (HB3.out.mono HBU0.out.size)
      have HBW3 : Hid (Below W.heap.size W w3) := hW3
      obtain ⟨q0, q1, q2, q3, _⟩ := blk4 (HK.out w3 hW3).1
      obtain ⟨x0, x1, x2, x3, y0, y1, y2, y3⟩ := HR.out w3 hB3
      have h6 := below_hpS HB3.out HU60.out
      have H6 : Hid _ := h6
      obtain ⟨⟨z0, z1, z2, z3, z4, z5, z6, z7, z8⟩, g0, g1, g2, g3, g4, g5, g6, g7, g8⟩ := blk9 h6
      clear h6 hB3 hW3
      go_upto_region 7 with fail
      obtain ⟨U2, hU2⟩ : ∃ U2, U2 = ((((((((w3.setCell ⟨b6, 0, none⟩ (.int .i64 k0)).setCell ⟨b6, 1, none⟩ (.string s0)).setCell ⟨b6, 2, none⟩ (.int .i64 n0)).setCell ⟨b6, 3, none⟩ (.slice a0 l0 c0)).setCell ⟨b6, 4, none⟩ (.int .i64 kk)).setCell ⟨b6, 5, none⟩ (.string s1)).setCell ⟨b6, 6, none⟩ (.int .i64 n1)).setCell ⟨b6, 7, none⟩ (.slice a1 l1 c1)) := ⟨_, rfl⟩
      rw [← hU2]
      have u6 : U2.heap[b6]? = some (.cells #[.int .i64 k0, .string s0, .int .i64 n0, .slice a0 l0 c0, .int .i64 kk, .string s1, .int .i64 n1, .slice a1 l1 c1, .string f] 36 (0, 0)) := by rw [hU2]; exact blk9_set8 H6.out
      have uB : Below (w.heap.size + 2) W U2 := by
        rw [hU2]
        have := HBW3.out
        rw [HL.out] at this
        have hb6 := HNE.out.2.2
        exact below_set (below_set (below_set (below_set (below_set (below_set (below_set (below_set this hb6 _) hb6 _) hb6 _) hb6 _) hb6 _) hb6 _) hb6 _) hb6 _
      have HW2 : Hid (Below W.heap.size W U2) := by show Below _ _ _; rw [HL.out]; exact uB
      have HBU2 : Hid (Below w.heap.size w U2) := HBW.out.trans (HW2.out.mono HBW.out.size)
      have HU26 : Hid _ := u6
      clear hU2 uB x0 x1 x2 x3 y0 y1 y2 y3 q0 q1 q2 q3 z0 z1 z2 z3 z4 z5 z6 z7 z8 g0 g1 g2 g3 g4 g5 g6 g7 g8 H6
      obtain ⟨⟨z0, z1, z2, z3, z4, z5, z6, z7, z8⟩, g0, g1, g2, g3, g4, g5, g6, g7, g8⟩ := blk9 u6
      clear u6
      have hxy : ∀ u ∈ [x, y], u.ok = true ∧ u.right 2 = true := fun u hu => okk_kid (k := 4) (s := cIf) (n := n) (ks := [x, y]) (by rw [← HT0.out.1]; exact HOKT.out) hu
      have HOX : Hid (x.ok = true ∧ y.ok = true ∧ y.right 2 = true) := ⟨(hxy x (by simp)).1, (hxy y (by simp)).1, (hxy y (by simp)).2⟩
      have HCL : Hid (clB t0 = mayB (predB x)) := by show _ = _; unfold clB; rw [HOKT.out, HCUT0.out]; rfl
      clear hxy
      by_cases hk1 : kk = 1
      · subst hk1
        have hcut : cutC t0 = (x, .mk 4 cCall 0 [y]) := by rw [HCUT0.out, if_pos HKD.out]
        rw [hcut] at HYES
        have HCUT : Hid (x.ok = true ∧ (Tm.mk 4 cCall 0 [y]).ok = true ∧ clB t0 = mayB (predB x)) := ⟨HOX.out.1, ok_call HOX.out.2.2 HKD.out, HCL.out⟩
        have hlt : b6 < U2.heap.size := (Array.getElem?_eq_some_iff.1 HU26.out).1
        clear hcut
        go_upto_region 9 with fail
        obtain ⟨cb, hcb⟩ : ∃ cb, cb = U2.heap.size := ⟨_, rfl⟩
        rw [← hcb]
        obtain ⟨U3, hU3⟩ : ∃ U3, U3 = (((((U2.setCell ⟨b6, 4, none⟩ (.int .i64 4)).setCell ⟨b6, 5, none⟩ (.string ⟨#[99, 97, 108, 108]⟩)).setCell ⟨b6, 6, none⟩ (.int .i64 0)).setCell ⟨b6, 7, none⟩ (.slice (some ⟨cb, 0, none⟩) 1 1))).alloc (.cells #[.int .i64 1, .string s1, .int .i64 n1, .slice a1 l1 c1] 31) := ⟨_, rfl⟩
        rw [← hU3]
        have v6 : U3.heap[b6]? = some (.cells #[.int .i64 k0, .string s0, .int .i64 n0, .slice a0 l0 c0, .int .i64 4, .string cCall, .int .i64 0, .slice (some ⟨cb, 0, none⟩) 1 1, .string f] 36 (0, 0)) := by rw [hU3]; exact (alloc_old _ _ (by simpa [World.setCell] using hlt)).trans (blk9_set4b HU26.out)
        have vB : Below (w.heap.size + 2) W U3 := by
          rw [hU3]
          have h1 := HW2.out
          rw [HL.out] at h1
          have hb6 := HNE.out.2.2
          exact (below_set (below_set (below_set (below_set h1 hb6 _) hb6 _) hb6 _) hb6 _).alloc (by simp [World.setCell]; omega) _
        have HCBK : Hid (U3.heap[cb]? = some (.cells #[.int .i64 1, .string s1, .int .i64 n1, .slice a1 l1 c1] 31 (0, 0)) ∧ w.heap.size + 2 < cb) := by
          refine ⟨?_, by have := HNE.out.2.2; omega⟩
          rw [hU3]
          exact alloc_at _ _ (by simpa [World.setCell] using hcb)
        have HW3 : Hid (Below W.heap.size W U3) := by show Below _ _ _; rw [HL.out]; exact vB
        have HBU3 : Hid (Below w.heap.size w U3) := HBW.out.trans (HW3.out.mono HBW.out.size)
        clear hU3 vB hlt hcb z0 z1 z2 z3 z4 z5 z6 z7 z8 g0 g1 g2 g3 g4 g5 g6 g7 g8
        have HU3 : Hid (∀ w', Below U3.heap.size U3 w' → w'.heap[b6]? = some (.cells #[.int .i64 k0, .string s0, .int .i64 n0, .slice a0 l0 c0, .int .i64 4, .string cCall, .int .i64 0, .slice (some ⟨cb, 0, none⟩) 1 1, .string f] 36 (0, 0)) ∧ w'.heap[w.heap.size + 1]? = some (.cells #[.int .i64 0, .string ⟨#[]⟩, .int .i64 0, .slice none 0 0, .int .i64 0, .string ⟨#[]⟩, .int .i64 0, .slice none 0 0, .string ⟨#[]⟩] 36 (0, 0)) ∧ TmIn w' x (.agg #[.int .i64 k0, .string s0, .int .i64 n0, .slice a0 l0 c0]) ∧ TmIn w' (Tm.mk 4 cCall 0 [y]) (.agg #[.int .i64 4, .string cCall, .int .i64 0, .slice (some ⟨cb, 0, none⟩) 1 1])) := fun w' hb =>
          ⟨below_hpS hb v6, (HK.out w' (HW3.out.trans (hb.mono HW3.out.size))).2, TmIn.keep (HBU3.out.trans (hb.mono HBU3.out.size)) _ _ HTX.out, by
              obtain ⟨r0, r1, r2, r3, _⟩ := blk4 (below_hpS hb HCBK.out.1)
              exact ⟨some ⟨cb, 0, none⟩, 1, rfl, by omega, by omega, by show 4 ≤ maxLen; unfold maxLen; omega, Nat.le_refl _, by unfold maxLen; omega, fun _ => ⟨cb, 0, rfl, ⟨_, _, _, _, r0, r1, r2, r3, TmIn.keep (HBU3.out.trans (hb.mono HBU3.out.size)) _ _ HTY.out⟩, trivial⟩⟩⟩
        clear v6
        have hokH : x.ok = true := HCUT.out.1
        have HHD0 := s_head x U3 (.agg #[.int .i64 k0, .string s0, .int .i64 n0, .slice a0 l0 c0]) (HU3.out U3 (Below.refl _ _)).2.2.1 (by have := ok_wt hokH; omega)
        have HTB : Hid (∀ w', Below U3.heap.size U3 w' → Calls Tryd.prog 43 #[.agg #[.int .i64 4, .string cCall, .int .i64 0, .slice (some ⟨cb, 0, none⟩) 1 1]] w' fun e w2 => e = .returned (.bool true) ∧ Below w'.heap.size w' w2) := fun w' hb => by
          have := specOk _ w' _ (HU3.out w' hb).2.2.2
          rwa [HCUT.out.2.1] at this
        obtain ⟨mb, hmb⟩ : ∃ mb, mb = mayB (predB x) := ⟨_, rfl⟩
        rw [← hmb] at HHD0
        have HHD : Hid _ := HHD0
        have HCB : Hid (clB t0 = mb) := HCUT.out.2.2.trans hmb.symm
        obtain ⟨⟨x0, x1, x2, x3, x4, x5, x6, x7, x8⟩, _⟩ := blk9 (HU3.out U3 (Below.refl _ _)).1
        clear HHD0 hokH hmb
        cases mb with
        | false =>
          go_upto_region 10 with (go_at_call 46; refine (Calls.mono HHD.out ?_); rintro e w5 ⟨rfl, hb⟩; have HB5 : Hid (Below U3.heap.size U3 w5) := hb; clear hb)
          clear x0 x1 x2 x3 x4 x5 x6 x7 x8
          have hz := (HU3.out w5 HB5.out).2.1
          have HZ : Hid _ := hz
          obtain ⟨⟨cc0, cc1, cc2, cc3, cc4, cc5, cc6, cc7, cc8⟩, g0, g1, g2, g3, g4, g5, g6, g7, g8⟩ := blk9 hz
          clear hz
          go_wp2
          refine bodyPost_ret_by (results_ctx rfl _ _ (w.heap.size + 1) 36 _ (0, 0) _ rfl (blk9_set HZ.out) Tryd.underlying36 rfl (by kernel_rfl)) rfl ?_
          exact HNO.out HCB.out _ _ _ _ _ _ _ _ _ w5 (HBU3.out.trans (HB5.out.mono HBU3.out.size))
        | true =>
          go_upto_region 11 with (first
            | (go_at_call 46; refine (Calls.mono HHD.out ?_); rintro e w5 ⟨rfl, hb⟩; have HB5 : Hid (Below U3.heap.size U3 w5) := hb; obtain ⟨⟨y0, y1, y2, y3, y4, y5, y6, y7, y8⟩, _⟩ := blk9 (HU3.out w5 hb).1; have HTB5 : Hid _ := HTB.out w5 hb; clear hb)
            | (go_at_call 43; refine (Calls.mono HTB5.out ?_); rintro e w6 ⟨rfl, hb⟩; have HB6 : Hid (Below U3.heap.size U3 w6) := HB5.out.trans (hb.mono HB5.out.size); clear hb))
          clear x0 x1 x2 x3 x4 x5 x6 x7 x8
          try clear y0 y1 y2 y3 y4 y5 y6 y7 y8
          have hz := (HU3.out w6 HB6.out).2.1
          have HZ : Hid _ := hz
          obtain ⟨⟨cc0, cc1, cc2, cc3, cc4, cc5, cc6, cc7, cc8⟩, g0, g1, g2, g3, g4, g5, g6, g7, g8⟩ := blk9 hz
          obtain ⟨⟨x0, x1, x2, x3, x4, x5, x6, x7, x8⟩, _⟩ := blk9 (HU3.out w6 HB6.out).1
          clear hz
          go_wp2
          refine bodyPost_ret_by (results_ctx rfl _ _ (w.heap.size + 1) 36 _ (0, 0) _ rfl (blk9_set HZ.out) Tryd.underlying36 rfl (by kernel_rfl)) rfl ?_
          have hend : ∀ d0 d1 d2 d3 d4 d5 d6 d7 d8, Below w.heap.size w (set9 w6 (w.heap.size + 1) d0 d1 d2 d3 d4 d5 d6 d7 d8) := fun d0 d1 d2 d3 d4 d5 d6 d7 d8 => blk9_below (HBU3.out.trans (HB6.out.mono HBU3.out.size)) (by omega)
          refine HYES.out HCB.out _ _ _ _ _ _ _ _ _ _ _ _ _ ?_ ?_ (hend _ _ _ _ _ _ _ _ _)
          · exact TmIn.keep (hend _ _ _ _ _ _ _ _ _) _ _ HTX.out
          · exact by
                have hcb : ∀ d0 d1 d2 d3 d4 d5 d6 d7 d8, (set9 w6 (w.heap.size + 1) d0 d1 d2 d3 d4 d5 d6 d7 d8).heap[cb]? = some (.cells #[.int .i64 1, .string s1, .int .i64 n1, .slice a1 l1 c1] 31 (0, 0)) := fun d0 d1 d2 d3 d4 d5 d6 d7 d8 => (blk9_other (by have := HCBK.out.2; omega)).trans (below_hpS HB6.out HCBK.out.1)
                obtain ⟨r0, r1, r2, r3, _⟩ := blk4 (hcb (.int .i64 k0) (.string s0) (.int .i64 n0) (.slice a0 l0 c0) (.int .i64 4) (.string cCall) (.int .i64 0) (.slice (some ⟨cb, 0, none⟩) 1 1) (.string f))
                exact ⟨some ⟨cb, 0, none⟩, 1, rfl, by omega, by omega, by show 4 ≤ maxLen; unfold maxLen; omega, Nat.le_refl _, by unfold maxLen; omega, fun _ => ⟨cb, 0, rfl, ⟨_, _, _, _, r0, r1, r2, r3, TmIn.keep (hend _ _ _ _ _ _ _ _ _) _ _ HTY.out⟩, trivial⟩⟩
      · have hcut : cutC t0 = (x, y) := by rw [HCUT0.out, if_neg (by rw [HKD.out]; exact hk1)]
        rw [hcut] at HYES
        have HCUT : Hid (x.ok = true ∧ y.ok = true ∧ clB t0 = mayB (predB x)) := ⟨HOX.out.1, HOX.out.2.1, HCL.out⟩
        have hk1' : (kk == 1) = false := beq_eq_false_iff_ne.2 hk1
        clear hcut hk1
        go_upto_region 9 with fail
        clear hk1' z0 z1 z2 z3 z4 z5 z6 z7 z8 g0 g1 g2 g3 g4 g5 g6 g7 g8
        have HU2 : Hid (∀ w', Below U2.heap.size U2 w' → w'.heap[b6]? = some (.cells #[.int .i64 k0, .string s0, .int .i64 n0, .slice a0 l0 c0, .int .i64 kk, .string s1, .int .i64 n1, .slice a1 l1 c1, .string f] 36 (0, 0)) ∧ w'.heap[w.heap.size + 1]? = some (.cells #[.int .i64 0, .string ⟨#[]⟩, .int .i64 0, .slice none 0 0, .int .i64 0, .string ⟨#[]⟩, .int .i64 0, .slice none 0 0, .string ⟨#[]⟩] 36 (0, 0)) ∧ TmIn w' x (.agg #[.int .i64 k0, .string s0, .int .i64 n0, .slice a0 l0 c0]) ∧ TmIn w' y (.agg #[.int .i64 kk, .string s1, .int .i64 n1, .slice a1 l1 c1])) := fun w' hb =>
          ⟨below_hpS hb HU26.out, (HK.out w' (HW2.out.trans (hb.mono HW2.out.size))).2, TmIn.keep (HBU2.out.trans (hb.mono HBU2.out.size)) _ _ HTX.out, TmIn.keep (HBU2.out.trans (hb.mono HBU2.out.size)) _ _ HTY.out⟩
        have hokH : x.ok = true := HCUT.out.1
        have HHD0 := s_head x U2 (.agg #[.int .i64 k0, .string s0, .int .i64 n0, .slice a0 l0 c0]) (HU2.out U2 (Below.refl _ _)).2.2.1 (by have := ok_wt hokH; omega)
        have HTB : Hid (∀ w', Below U2.heap.size U2 w' → Calls Tryd.prog 43 #[.agg #[.int .i64 kk, .string s1, .int .i64 n1, .slice a1 l1 c1]] w' fun e w2 => e = .returned (.bool true) ∧ Below w'.heap.size w' w2) := fun w' hb => by
          have := specOk _ w' _ (HU2.out w' hb).2.2.2
          rwa [HCUT.out.2.1] at this
        obtain ⟨mb, hmb⟩ : ∃ mb, mb = mayB (predB x) := ⟨_, rfl⟩
        rw [← hmb] at HHD0
        have HHD : Hid _ := HHD0
        have HCB : Hid (clB t0 = mb) := HCUT.out.2.2.trans hmb.symm
        obtain ⟨⟨x0, x1, x2, x3, x4, x5, x6, x7, x8⟩, _⟩ := blk9 (HU2.out U2 (Below.refl _ _)).1
        clear HHD0 hokH hmb
        cases mb with
        | false =>
          go_upto_region 10 with (go_at_call 46; refine (Calls.mono HHD.out ?_); rintro e w5 ⟨rfl, hb⟩; have HB5 : Hid (Below U2.heap.size U2 w5) := hb; clear hb)
          clear x0 x1 x2 x3 x4 x5 x6 x7 x8
          have hz := (HU2.out w5 HB5.out).2.1
          have HZ : Hid _ := hz
          obtain ⟨⟨cc0, cc1, cc2, cc3, cc4, cc5, cc6, cc7, cc8⟩, g0, g1, g2, g3, g4, g5, g6, g7, g8⟩ := blk9 hz
          clear hz
          go_wp2
          refine bodyPost_ret_by (results_ctx rfl _ _ (w.heap.size + 1) 36 _ (0, 0) _ rfl (blk9_set HZ.out) Tryd.underlying36 rfl (by kernel_rfl)) rfl ?_
          exact HNO.out HCB.out _ _ _ _ _ _ _ _ _ w5 (HBU2.out.trans (HB5.out.mono HBU2.out.size))
        | true =>
          go_upto_region 11 with (first
            | (go_at_call 46; refine (Calls.mono HHD.out ?_); rintro e w5 ⟨rfl, hb⟩; have HB5 : Hid (Below U2.heap.size U2 w5) := hb; obtain ⟨⟨y0, y1, y2, y3, y4, y5, y6, y7, y8⟩, _⟩ := blk9 (HU2.out w5 hb).1; have HTB5 : Hid _ := HTB.out w5 hb; clear hb)
            | (go_at_call 43; refine (Calls.mono HTB5.out ?_); rintro e w6 ⟨rfl, hb⟩; have HB6 : Hid (Below U2.heap.size U2 w6) := HB5.out.trans (hb.mono HB5.out.size); clear hb))
          clear x0 x1 x2 x3 x4 x5 x6 x7 x8
          try clear y0 y1 y2 y3 y4 y5 y6 y7 y8
          have hz := (HU2.out w6 HB6.out).2.1
          have HZ : Hid _ := hz
          obtain ⟨⟨cc0, cc1, cc2, cc3, cc4, cc5, cc6, cc7, cc8⟩, g0, g1, g2, g3, g4, g5, g6, g7, g8⟩ := blk9 hz
          obtain ⟨⟨x0, x1, x2, x3, x4, x5, x6, x7, x8⟩, _⟩ := blk9 (HU2.out w6 HB6.out).1
          clear hz
          go_wp2
          refine bodyPost_ret_by (results_ctx rfl _ _ (w.heap.size + 1) 36 _ (0, 0) _ rfl (blk9_set HZ.out) Tryd.underlying36 rfl (by kernel_rfl)) rfl ?_
          have hend : ∀ d0 d1 d2 d3 d4 d5 d6 d7 d8, Below w.heap.size w (set9 w6 (w.heap.size + 1) d0 d1 d2 d3 d4 d5 d6 d7 d8) := fun d0 d1 d2 d3 d4 d5 d6 d7 d8 => blk9_below (HBU2.out.trans (HB6.out.mono HBU2.out.size)) (by omega)
          refine HYES.out HCB.out _ _ _ _ _ _ _ _ _ _ _ _ _ ?_ ?_ (hend _ _ _ _ _ _ _ _ _)
          · exact TmIn.keep (hend _ _ _ _ _ _ _ _ _) _ _ HTX.out
          · exact TmIn.keep (hend _ _ _ _ _ _ _ _ _) _ _ HTY.out
end Go.Proofs.YtenmhpalpfppmaoDoor

/- A row of terms that grows by appends. Of no program. -/
namespace Go.Proofs.YtenmhpalpfppmaoDoor
open Go.RowKit

/-- what was put together so far: a row of its own, and the terms in it in blocks of their own -/
def OutS (e : TypeId) (w : World) (B : Nat) (ks : List Tm) (v : Value) (F : List Nat) : Prop :=
  ∃ cs g, w.ownsRow B e 4 v ks.length cs ∧ v.ownBlock = some g ∧ OwnRow e w ks cs F ∧ (∀ f ∈ F, B ≤ f) ∧ B ≤ g ∧ (g :: F).Nodup

theorem OutS.own {e : TypeId} {w : World} {B : Nat} {ks : List Tm} {v : Value} {F : List Nat} (h : OutS e w B ks v F) : ∃ F', OwnS e w ks v F' ∧ (∀ f ∈ F', B ≤ f) ∧ F'.Nodup := by
  obtain ⟨cs, g, h1, h2, h3, h4, h5, h6⟩ := h
  refine ⟨g :: F, ?_, ?_, h6⟩
  · rcases h1.2 with ⟨rfl, _⟩ | ⟨g', cap, cur, rfl, hb, hh, hr⟩
    · cases h2
    · obtain rfl : g' = g := by simpa [Value.ownBlock] using h2
      exact Or.inr ⟨g', cap, cs, F, rfl, ⟨h1.1, Or.inr ⟨g', cap, cur, rfl, Nat.zero_le _, hh, hr⟩⟩, rfl, h3⟩
  · intro f hf
    rcases List.mem_cons.1 hf with rfl | hf
    · exact h5
    · exact h4 f hf

theorem OutS.lt {e : TypeId} {w : World} {B : Nat} {ks : List Tm} {v : Value} {F : List Nat} (h : OutS e w B ks v F) : (∀ f ∈ F, f < w.heap.size) ∧ ∀ g, v.ownBlock = some g → g < w.heap.size := by
  obtain ⟨cs, g, h1, h2, h3, h4, h5, h6⟩ := h
  exact ⟨OwnRow.lt _ _ _ h3, fun g hg => (h1.lt g hg).2⟩

theorem OutS.shape {e : TypeId} {w : World} {B : Nat} {ks : List Tm} {v : Value} {F : List Nat} (h : OutS e w B ks v F) : ∃ g cap, v = .slice (some ⟨g, 0, none⟩) ks.length cap ∧ B ≤ g ∧ g < w.heap.size ∧ ks.length ≤ cap ∧ cap ≤ maxLen := by
  obtain ⟨cs, g, h1, h2, h3, h4, h5, h6⟩ := h
  rcases h1.2 with ⟨rfl, _⟩ | ⟨g', cap, cur, rfl, hb, hh, hr, hm, _⟩
  · cases h2
  · exact ⟨g', cap, rfl, hb, (Array.getElem?_eq_some_iff.1 hh).1, hr, hm⟩

theorem OutS.keep {e : TypeId} {w w' : World} {B : Nat} {ks : List Tm} {v : Value} {F : List Nat} (h : OutS e w B ks v F) (hb : ∀ k, B ≤ k → k < w.heap.size → w'.heap[k]? = w.heap[k]?) : OutS e w' B ks v F := by
  have hlt := h.lt
  obtain ⟨cs, g, h1, h2, h3, h4, h5, h6⟩ := h
  refine ⟨cs, g, ?_, h2, OwnRow.keep _ _ _ h3 fun f hf => hb f (h4 f hf) (hlt.1 f hf), h4, h5, h6⟩
  rcases h1.2 with ⟨rfl, _⟩ | ⟨g', cap, cur, rfl, hb', hh, hr⟩
  · cases h2
  · exact ⟨h1.1, Or.inr ⟨g', cap, cur, rfl, hb', (hb g' hb' (Array.getElem?_eq_some_iff.1 hh).1).trans hh, hr⟩⟩

theorem outS_new {e : TypeId} {w : World} {B : Nat} (hB : B ≤ w.heap.size) (cap : Nat) (hc : cap ≤ maxLen) (M : Array Value) (hM : M.size = cap * 4) : OutS e (w.alloc (.cells M e)) B [] (.slice (some ⟨w.heap.size, 0, none⟩) 0 cap) [] := by
  refine ⟨[], w.heap.size, ⟨by simp, Or.inr ⟨w.heap.size, cap, M, rfl, hB, heap_alloc_new w _, Nat.zero_le _, hc, hM, by simp⟩⟩, rfl, by simp [OwnRow], by simp, hB, by simp⟩

/-- one more term behind it -/
theorem OutS.push {e : TypeId} {w1 w2 : World} {B : Nat} {ks : List Tm} {v v' : Value} {F F2 : List Nat} {t : Tm} {c0 c1 c2 c3 : Value} {cs : List Value} {g : Nat}
    (h1 : w1.ownsRow B e 4 v ks.length cs) (hg : v.ownBlock = some g) (hr : OwnRow e w1 ks cs F) (hF : ∀ f ∈ F, B ≤ f) (hBg : B ≤ g) (hnd : (g :: F).Nodup)
    (ht : Own e w1 t (.agg #[c0, c1, c2, c3]) F2) (hF2 : ∀ f ∈ F2, B ≤ f) (hnd2 : F2.Nodup) (hdis : ∀ f ∈ F2, f ∉ g :: F)
    (hown : w2.ownsRow B e 4 v' (ks.length + 1) (cs ++ [c0, c1, c2, c3])) (hgrow : w1.grownBy w2 v.ownBlock) (hat : v'.ownBlock = v.ownBlock ∨ v'.ownBlock = some w1.heap.size) :
    OutS e w2 B (ks ++ [t]) v' (F ++ F2) := by
  have hlt := OwnRow.lt _ _ _ hr
  have hlt2 := Own.lt _ _ _ ht
  have hglt := (h1.lt g hg).2
  rw [List.nodup_cons] at hnd
  have hk : ∀ f, f < w1.heap.size → f ≠ g → w2.heap[f]? = w1.heap[f]? := fun f hf hne => hgrow.block f hf (by rw [hg]; intro e; exact hne (by simpa using e))
  obtain ⟨g', hg', hgg⟩ : ∃ g', v'.ownBlock = some g' ∧ (g' = g ∨ g' = w1.heap.size) := by
    rcases hat with hat | hat
    · exact ⟨g, hat.trans hg, Or.inl rfl⟩
    · exact ⟨_, hat, Or.inr rfl⟩
  have hne : ∀ f ∈ F, f ≠ g := fun f hf e => hnd.1 (e ▸ hf)
  have hne2 : ∀ f ∈ F2, f ≠ g := fun f hf e => hdis f hf (by simp [e])
  refine ⟨cs ++ [c0, c1, c2, c3], g', by simpa using hown, hg', ?_, ?_, ?_, ?_⟩
  · exact OwnRow.snoc (Own.keep _ _ _ ht fun f hf => hk f (hlt2 f hf) (hne2 f hf)) _ _ _ (OwnRow.keep _ _ _ hr fun f hf => hk f (hlt f hf) (hne f hf))
  · intro f hf
    rcases List.mem_append.1 hf with hf | hf
    · exact hF f hf
    · exact hF2 f hf
  · rcases hgg with rfl | rfl
    · exact hBg
    · omega
  · refine List.nodup_cons.2 ⟨fun hf => ?_, List.nodup_append.2 ⟨hnd.2, hnd2, fun a ha b hb e => hdis b hb (by rw [← e]; simp [ha])⟩⟩
    rcases List.mem_append.1 hf with hf | hf
    · rcases hgg with rfl | rfl
      · exact hnd.1 hf
      · have := hlt _ hf; omega
    · rcases hgg with rfl | rfl
      · exact hne2 _ hf rfl
      · have := hlt2 _ hf; omega
end Go.Proofs.YtenmhpalpfppmaoDoor

/- The laws' copy of a term: each row in a block of its own. -/
namespace Go.Proofs.YtenmhpalpfppmaoDoor
open Go.RowKit

def ToOk (t : Tm) : Prop := ∀ (w : World) (v : Value), TmIn w t v → t.wt ≤ 1048576 →
  Calls Tryd.prog 10 #[v] w fun e w' => ∃ v' F, e = .returned v' ∧ Own 31 w' t v' F ∧ (∀ f ∈ F, w.heap.size ≤ f) ∧ F.Nodup ∧ Below w.heap.size w w'

theorem to_terms (ks : List Tm) (hks : ∀ t ∈ ks, ToOk t) (w : World) (ao : Option Addr) (cap : Nat) (hlen : ks.length + wts ks ≤ 1048576) (h : ks ≠ [] → ∃ b off, ao = some ⟨b, off, none⟩ ∧ TmsIn w ks b off) :
    Calls Tryd.prog 24 #[.slice ao ks.length cap] w fun e w' => ∃ sl F, e = .returned sl ∧ OwnS 31 w' ks sl F ∧ (∀ f ∈ F, w.heap.size ≤ f) ∧ F.Nodup ∧ Below w.heap.size w w' := by
  obtain ⟨M, hM, hmk⟩ := make_terms ks.length (by omega)
  go_enter Tryd.func24, Tryd.ntmps24
  go_wp2
  clear hmk
  go_loopw [4] (fun vi wr => ∃ (j : Nat) (cur : Array Value) (F : List Nat), j ≤ ks.length ∧ vi = .int .i64 (j : Int) ∧ Hid (Below w.heap.size w wr) ∧ wr.heap[w.heap.size]? = some (.cells cur 31 (0, 0)) ∧ cur.size = ks.length * 4 ∧
      Hid (OwnRow 31 wr (ks.take j) (cur.toList.take (j * 4)) F ∧ (∀ f ∈ F, w.heap.size < f) ∧ F.Nodup)) (fun i _ => ks.length - (intOf i).toNat)
  case atStart =>
    refine ⟨0, M, [], by omega, rfl, (Below.refl _ _).alloc (Nat.le_refl _) _, by rw [heap_alloc_new], hM, ?_⟩
    exact ⟨by simp [OwnRow], by simp, by simp⟩
  case round =>
    obtain ⟨j, cur, F, hj, rfl, HB, hblk, hcs, HO⟩ := hrel
    by_cases hlt : j < ks.length
    · obtain ⟨b, off, rfl, hin⟩ := h (by intro e; subst e; simp at hlt)
      obtain ⟨c0, c1, c2, c3, h0, h1, h2, h3, ht⟩ := (TmsIn.keep HB.out ks b off hin).at j hlt
      have hwj := wt_le (List.getElem_mem hlt)
      have HC : Hid _ := hks ks[j] (List.getElem_mem hlt) wr _ ht (by omega)
      have hg : w.heap.size < wr.heap.size := (Array.getElem?_eq_some_iff.1 hblk).1
      have hkeep : ∀ w1 : World, Below wr.heap.size wr w1 → w1.heap[w.heap.size]? = some (.cells cur 31 (0, 0)) := fun w1 hb => (hb.block _ hg).trans hblk
      have HK : Hid _ := hkeep
      clear hin ht h hks hkeep hblk
      go_wp2_with (go_at_call 10; refine (Calls.mono HC.out ?_); rintro e w1 ⟨v', F2, rfl, hown, hfr, hnd, hb⟩; obtain ⟨k', s', n', ao', len', cap', rfl⟩ := own_shape hown; have hg1 := HK.out w1 hb; have x0 := blk_cell (i := j * 4) hg1 (by omega); have x1 := blk_cell (i := j * 4 + 1) hg1 (by omega); have x2 := blk_cell (i := j * 4 + 2) hg1 (by omega); have x3 := blk_cell (i := j * 4 + 3) hg1 (by omega); have z0 := blk_frozen hg1 (j * 4); have z1 := blk_frozen hg1 (j * 4 + 1); have z2 := blk_frozen hg1 (j * 4 + 2); have z3 := blk_frozen hg1 (j * 4 + 3); have HOWN : Hid _ := hown; have HFR : Hid _ := hfr; have HG : Hid _ := hg1; have HBB : Hid _ := hb; clear hown hfr hg1 hb)
      go_roundw
      case rel =>
        have hsz := HB.out.size
        have hb1 := HBB.out
        have hg1 := HG.out
        obtain ⟨o1, o2, o3⟩ := HO.out
        have hlt1 := OwnRow.lt _ _ _ o1
        have hne : ∀ f, w.heap.size < f → f ≠ w.heap.size := fun f hf => by omega
        refine ⟨j + 1, _, F ++ F2, by omega, by go_num, ?_, blk_set (blk_set (blk_set (blk_set hg1 _) _) _) _, by simp; exact hcs, ?_, ?_, ?_⟩
        · exact below_set (below_set (below_set (below_set (HB.out.trans (hb1.mono hsz)) (Nat.le_refl _) _) (Nat.le_refl _) _) (Nat.le_refl _) _) (Nat.le_refl _) _
        · rw [List.take_succ_eq_append_getElem hlt, set4_take (by omega)]
          refine OwnRow.snoc (Own.keep _ _ _ HOWN.out fun f hf => ?_) _ _ _ (OwnRow.keep _ _ _ o1 fun f hf => ?_)
          · have h1 := HFR.out f hf
            rw [blk_other _ (hne f (by omega)), blk_other _ (hne f (by omega)), blk_other _ (hne f (by omega)), blk_other _ (hne f (by omega))]
          · have h1 := o2 f hf
            rw [blk_other _ (hne f h1), blk_other _ (hne f h1), blk_other _ (hne f h1), blk_other _ (hne f h1)]
            exact hb1.block f (hlt1 f hf)
        · intro f hf
          rcases List.mem_append.1 hf with hf | hf
          · exact o2 f hf
          · have := HFR.out f hf; omega
        · refine List.nodup_append.2 ⟨o3, hnd, fun a ha b hb => ?_⟩
          have h1 := hlt1 a ha
          have h2 := HFR.out b hb
          omega
      case measure => simp [intOf]; omega
    · obtain rfl : j = ks.length := by omega
      go_wp2
      go_ret
      obtain ⟨o1, o2, o3⟩ := HO.out
      rw [List.take_of_length_le (Nat.le_refl _)] at o1
      refine ⟨_, w.heap.size :: F, rfl, Or.inr ⟨w.heap.size, ks.length, cur.toList.take (ks.length * 4), F, rfl, ⟨by simp [hcs], Or.inr ⟨w.heap.size, ks.length, cur, rfl, Nat.zero_le _, hblk, Nat.le_refl _, by unfold maxLen; omega, hcs, rfl⟩⟩, rfl, o1⟩, ?_, ?_, HB.out⟩
      · intro f hf
        rcases List.mem_cons.1 hf with rfl | hf
        · exact Nat.le_refl _
        · have := o2 f hf; omega
      · refine List.nodup_cons.2 ⟨fun hf => ?_, o3⟩
        have := o2 _ hf
        omega

theorem to_term (t : Tm) : ToOk t := by
  refine tm_ind (p := ToOk) ?_ t
  clear t
  intro k s n ks hks w v hin hwt
  unfold TmIn at hin
  obtain ⟨ao, cap, rfl, hk, hn, hs, hlen, hcap, hrow⟩ := hin
  have ew : (Tm.mk k s n ks).wt = s.size + (ks.length + wts ks) := by simp [Tm.wt, wts]; omega
  rw [ew] at hwt
  have HS : Hid (∀ w', Below w.heap.size w w' → Calls Tryd.prog 24 #[.slice ao ks.length cap] w' fun e w2 => ∃ sl F, e = .returned sl ∧ OwnS 31 w2 ks sl F ∧ (∀ f ∈ F, w'.heap.size ≤ f) ∧ F.Nodup ∧ Below w'.heap.size w' w2) := fun w' hb =>
    to_terms ks hks w' ao cap (by omega) (fun h0 => by obtain ⟨b, off, e, hr⟩ := hrow h0; exact ⟨b, off, e, TmsIn.keep hb ks b off hr⟩)
  clear hks hrow ew
  go_enter Tryd.func10, Tryd.ntmps10
  go_wp2_with (fail)
  go_at_call 24
  refine (Calls.mono (HS.out _ ((((Below.refl _ _).alloc (Nat.le_refl _) _).alloc (by simp) _).alloc (by simp; omega) _)) ?_)
  rintro e w1 ⟨sl, F, rfl, hown, hfr, hnd, hb⟩
  obtain ⟨ao2, len2, cap2, rfl⟩ : ∃ ao2 len2 cap2, sl = .slice ao2 len2 cap2 := by
    rcases hown with ⟨rfl, _⟩ | ⟨g, cap, cs, F', rfl, _⟩
    · exact ⟨_, _, _, rfl⟩
    · exact ⟨_, _, _, rfl⟩
  have hb2 : w1.heap[w.heap.size + 1 + 1]? = some (.cells #[.int .i64 k, .string s, .int .i64 n, .slice none 0 0] 31 (0, 0)) := by
    rw [hb.block _ (by simp)]
    exact alloc_at _ _ (by simp)
  have hb1 : w1.heap[w.heap.size + 1]? = some (.cells #[.int .i64 0, .string ⟨#[]⟩, .int .i64 0, .slice none 0 0] 31 (0, 0)) := by
    rw [hb.block _ (by simp), alloc_old _ _ (by simp)]
    exact alloc_at _ _ (by simp)
  have HOWN : Hid _ := hown
  have HFR : Hid _ := hfr
  have HBB : Hid _ := hb
  have y0 := blk_cell (i := 0) hb2 (by simp)
  have y1 := blk_cell (i := 1) hb2 (by simp)
  have y2 := blk_cell (i := 2) hb2 (by simp)
  have y3 := blk_cell (i := 3) hb2 (by simp)
  have z3 := blk_frozen hb2 3
  have x0 := blk_cell (i := 0) hb1 (by simp)
  have x1 := blk_cell (i := 1) hb1 (by simp)
  have x2 := blk_cell (i := 2) hb1 (by simp)
  have x3 := blk_cell (i := 3) hb1 (by simp)
  have u0 := blk_frozen hb1 0
  have u1 := blk_frozen hb1 1
  have u2 := blk_frozen hb1 2
  have u3 := blk_frozen hb1 3
  simp only [List.getElem_toArray, List.getElem_cons_zero, List.getElem_cons_succ] at y0 y1 y2 y3 x0 x1 x2 x3
  have H1 : Hid _ := hb1
  clear hown hfr hb hb2 hb1 HS
  go_wp2
  have hsz := HBB.out.size
  simp at hsz
  have hbl : Below w.heap.size w w1 := ((((Below.refl _ _).alloc (Nat.le_refl _) _).alloc (by simp) _).alloc (by simp; omega) _).trans (HBB.out.mono (by simp; omega))
  have hR : (((((w1.setCell ⟨w.heap.size + 1 + 1, 3, none⟩ (.slice ao2 len2 cap2)).setCell ⟨w.heap.size + 1, 0, none⟩ (.int .i64 k)).setCell ⟨w.heap.size + 1, 1, none⟩ (.string s)).setCell ⟨w.heap.size + 1, 2, none⟩ (.int .i64 n)).setCell ⟨w.heap.size + 1, 3, none⟩ (.slice ao2 len2 cap2)).heap[w.heap.size + 1]? = some (.cells #[.int .i64 k, .string s, .int .i64 n, .slice ao2 len2 cap2] 31 (0, 0)) := by
    have := blk_set (i := 3) (blk_set (i := 2) (blk_set (i := 1) (blk_set (i := 0) ((blk_other (g := w.heap.size + 1 + 1) (i := 3) (w := w1) (.slice ao2 len2 cap2) (show w.heap.size + 1 ≠ w.heap.size + 1 + 1 by omega)).trans H1.out) (.int .i64 k)) (.string s)) (.int .i64 n)) (.slice ao2 len2 cap2)
    simpa using this
  refine bodyPost_ret_by (results_cell_row rfl _ _ (w.heap.size + 1) 31 _ (0, 0) _ rfl hR Tryd.underlying31 rfl (by kernel_rfl)) rfl ?_
  refine ⟨_, F, rfl, own_mk ?_ hk hn hs, ?_, hnd, ?_⟩
  · refine OwnS.keep HOWN.out fun f hf => ?_
    have := HFR.out f hf
    simp at this
    rw [blk_other _ (by omega), blk_other _ (by omega), blk_other _ (by omega), blk_other _ (by omega), blk_other _ (by omega)]
  · intro f hf
    have := HFR.out f hf
    simp at this
    omega
  · exact below_set (below_set (below_set (below_set (below_set hbl (by omega) _) (by omega) _) (by omega) _) (by omega) _) (by omega) _
end Go.Proofs.YtenmhpalpfppmaoDoor

/- spec.l34Term, spec.l34Terms: a copy in memory of its own. -/
namespace Go.Proofs.YtenmhpalpfppmaoDoor
open Go.RowKit

def L34Ok (t : Tm) : Prop := ∀ (w : World) (v : Value), TmIn w t v → t.wt ≤ 1048576 →
  Calls Tryd.prog 47 #[v] w fun e w' => ∃ v' F, e = .returned v' ∧ Own 31 w' t v' F ∧ (∀ f ∈ F, w.heap.size ≤ f) ∧ F.Nodup ∧ Below w.heap.size w w'

set_option maxRecDepth 20000 in
theorem l34_terms (ks : List Tm) (hks : ∀ t ∈ ks, L34Ok t) (w : World) (ao : Option Addr) (cap : Nat) (hlen : ks.length + wts ks ≤ 1048576) (h : ks ≠ [] → ∃ b off, ao = some ⟨b, off, none⟩ ∧ TmsIn w ks b off) :
    Calls Tryd.prog 71 #[.slice ao ks.length cap] w fun e w' => ∃ sl F, e = .returned sl ∧ OwnS 31 w' ks sl F ∧ (∀ f ∈ F, w.heap.size ≤ f) ∧ F.Nodup ∧ Below w.heap.size w w' := by
  obtain ⟨i0, hi, hz0, hz1, hz2⟩ := info_parts infoT
  go_enter Tryd.func71, Tryd.ntmps71
  go_wp2
  go_loopw [3, 4] (fun vo vi wr => ∃ (j : Nat) (F : List Nat) (v : Value), j ≤ ks.length ∧ vi = .int .i64 (j : Int) ∧ v = vo ∧ Hid (Below w.heap.size w wr) ∧ Hid (OutS 31 wr w.heap.size (ks.take j) v F)) (fun _ i _ => ks.length - (intOf i).toNat)
  case atStart =>
    exact ⟨0, [], _, by omega, rfl, rfl, (Below.refl _ _).alloc (Nat.le_refl _) _, outS_new (Nat.le_refl _) 0 (Nat.zero_le _) _ rfl⟩
  case round =>
    obtain ⟨j, F, vo, hj, rfl, rfl, HB, HO⟩ := hrel
    by_cases hlt : j < ks.length
    · obtain ⟨b, off, rfl, hin⟩ := h (by intro e; subst e; simp at hlt)
      obtain ⟨c0, c1, c2, c3, h0, h1, h2, h3, ht⟩ := (TmsIn.keep HB.out ks b off hin).at j hlt
      have hwj := wt_le (List.getElem_mem hlt)
      have HC : Hid _ := hks ks[j] (List.getElem_mem hlt) wr _ ht (by omega)
      obtain ⟨g, cp, rfl, hBg, hgl, _, _⟩ := HO.out.shape
      have hl : (ks.take j).length = j := by rw [List.length_take]; omega
      rw [hl]
      have HK : Hid (∀ w1, Below wr.heap.size wr w1 → ∃ cs, w1.ownsRow w.heap.size 31 4 (.slice (some ⟨g, 0, none⟩) j cp) j cs ∧ OwnRow 31 w1 (ks.take j) cs F ∧ (∀ f ∈ F, w.heap.size ≤ f) ∧ (g :: F).Nodup ∧ (∀ f ∈ g :: F, f < wr.heap.size)) := fun w1 hb => by
        have hlt' := HO.out.lt
        obtain ⟨cs, g', q1, q2, q3, q4, q5, q6⟩ := HO.out.keep fun k _ hk => hb.block k hk
        obtain rfl : g = g' := by simpa [Value.ownBlock] using q2
        rw [hl] at q1
        refine ⟨cs, q1, q3, q4, q6, fun f hf => ?_⟩
        rcases List.mem_cons.1 hf with rfl | hf
        · exact hlt'.2 _ rfl
        · exact hlt'.1 f hf
      have hszw := HB.out.size
      clear hin ht h hks hl
      go_wp2_with (first
        | (go_at_call 47; refine (Calls.mono HC.out ?_); rintro e w1 ⟨v', F2, rfl, hown, hfr, hnd, hb⟩; obtain ⟨k', s', n', ao', len', cap', rfl⟩ := own_shape hown; have HOWN : Hid (Own 31 w1 ks[j] (.agg #[.int .i64 k', .string s', .int .i64 n', .slice ao' len' cap']) F2) := hown; have HFR : Hid (∀ f ∈ F2, wr.heap.size ≤ f) := hfr; have HND : Hid (F2.Nodup) := hnd; have HBB : Hid (Below wr.heap.size wr w1) := hb; have hsz1 := hb.size; obtain ⟨cs, q1, q3, q4, q6, q7⟩ := HK.out w1 hb; have Q1 : Hid (w1.ownsRow w.heap.size 31 4 (.slice (some ⟨g, 0, none⟩) j cp) j cs) := q1; have Q3 : Hid (OwnRow 31 w1 (ks.take j) cs F) := q3; have Q4 : Hid (∀ f ∈ F, w.heap.size ≤ f) := q4; have Q6 : Hid ((g :: F).Nodup) := q6; have Q7 : Hid (∀ f ∈ g :: F, f < wr.heap.size) := q7; clear q1 q3 q4 q6 q7 hown hfr hb hnd)
        | (at_builtin; go_loud (refine wpList_append_own_at _ rfl _ _ 29 rfl w.heap.size 31 i0 (.agg #[.int .i64 0, .string ⟨#[]⟩, .int .i64 0, .slice none 0 0]) 4 56 Tryd.underlying29 hi hz0 hz1 hz2 rfl (by decide) _ _ _ rfl (Q1.out.alloc _) ⟨w1.heap.size, 0, none⟩ 1 1 [.int .i64 k', .string s', .int .i64 n', .slice ao' len' cap'] rfl rfl ?c1 ?c2 ?c3 ?c4 ?c5 ?_)))
      case c1 =>
        intro j z hj
        match j, hj with
        | 0, hj => simp at hj; subst hj; simp [Addr.add]
        | 1, hj => simp at hj; subst hj; simp [Addr.add]
        | 2, hj => simp at hj; subst hj; simp [Addr.add]
        | 3, hj => simp at hj; subst hj; simp [Addr.add]
      case c2 => intro z hz; simp at hz; rcases hz with rfl | rfl | rfl | rfl <;> rfl
      case c3 => unfold maxLen; omega
      case c4 => omega
      case c5 => simp; omega
      · intro v' w2 hown' hgrow _ hat
        obtain ⟨W, hW⟩ : ∃ W, W = w1.alloc (.cells #[.int .i64 k', .string s', .int .i64 n', .slice ao' len' cap'] 31) := ⟨_, rfl⟩
        rw [← hW] at hgrow
        rw [show w1.heap.size + 1 = W.heap.size by rw [hW]; simp] at hat
        have bW : Below w1.heap.size w1 W := by rw [hW]; exact (Below.refl _ _).alloc (Nat.le_refl _) _
        have HFIN : Hid (OutS 31 w2 w.heap.size (ks.take j ++ [ks[j]]) v' (F ++ F2)) := by
          have q7 := Q7.out
          refine OutS.push (w1 := W) (g := g) (cs := cs) ?_ rfl (OwnRow.keep _ _ _ Q3.out fun f hf => bW.block f (OwnRow.lt _ _ _ Q3.out f hf)) Q4.out hBg Q6.out (Own.keep _ _ _ HOWN.out fun f hf => bW.block f (Own.lt _ _ _ HOWN.out f hf)) (fun f hf => by have := HFR.out f hf; omega) HND.out (fun f hf h' => by have := HFR.out f hf; have := q7 f h'; omega) ?_ hgrow hat
          · rw [List.length_take, Nat.min_eq_left hj, hW]; exact World.ownsRow.alloc Q1.out _
          · rw [List.length_take, Nat.min_eq_left hj]; exact hown'
        have HBN : Hid (Below w.heap.size w w2) := by
          have b1 : Below w.heap.size w W := (HB.out.trans (HBB.out.mono hszw)).trans (bW.mono (by omega))
          refine ⟨hgrow.os.trans b1.os, hgrow.tape.trans b1.tape, hgrow.output.trans b1.output, Nat.le_trans b1.size hgrow.size, fun k hk => ?_⟩
          rw [hgrow.block k (Nat.lt_of_lt_of_le hk b1.size) (by intro e; have : k = g := by simpa [Value.ownBlock] using e
                                                                omega)]
          exact b1.block k hk
        clear hown' hgrow hat Q1 Q3 Q4 Q6 Q7 HOWN HFR HND HBB bW hW
        go_wp2
        go_roundw
        case rel => exact ⟨j + 1, _, _, by omega, by go_num, rfl, HBN.out, by rw [List.take_succ_eq_append_getElem hlt]; exact HFIN.out⟩
        case measure => simp [intOf]; omega
    · have HE : Hid (OutS 31 wr w.heap.size ks vo F) := by
        have := HO.out
        rw [List.take_of_length_le (by omega)] at this
        exact this
      obtain ⟨g, cp, rfl, _⟩ := HE.out.shape
      clear HO
      go_wp2
      go_ret
      obtain ⟨F', q1, q2, q3⟩ := HE.out.own
      exact ⟨_, F', rfl, q1, q2, q3, HB.out⟩

set_option maxRecDepth 20000 in
theorem l34_term (t : Tm) : L34Ok t := by
  refine tm_ind (p := L34Ok) ?_ t
  clear t
  intro k s n ks hks w v hin hwt
  unfold TmIn at hin
  obtain ⟨ao, cap, rfl, hk, hn, hs, hlen, hcap, hrow⟩ := hin
  have ew : (Tm.mk k s n ks).wt = s.size + (ks.length + wts ks) := by simp [Tm.wt, wts]; omega
  rw [ew] at hwt
  obtain ⟨W, hW⟩ : ∃ W, W = (w.alloc (.cells #[.int .i64 k, .string s, .int .i64 n, .slice ao ks.length cap] 31)).alloc (.cells #[.int .i64 0, .string ⟨#[]⟩, .int .i64 0, .slice none 0 0] 31) := ⟨_, rfl⟩
  have bW : Below w.heap.size w W := by rw [hW]; exact ((Below.refl _ _).alloc (Nat.le_refl _) _).alloc (by simp) _
  have HC := l34_terms ks hks W ao cap (by omega) (fun h0 => by obtain ⟨b, off, e, hr⟩ := hrow h0; exact ⟨b, off, e, TmsIn.keep bW ks b off hr⟩)
  have k1 : W.heap[w.heap.size]? = some (.cells #[.int .i64 k, .string s, .int .i64 n, .slice ao ks.length cap] 31 (0, 0)) := by rw [hW]; exact (alloc_old _ _ (by simp)).trans (alloc_at _ _ rfl)
  have k2 : W.heap[w.heap.size + 1]? = some (.cells #[.int .i64 0, .string ⟨#[]⟩, .int .i64 0, .slice none 0 0] 31 (0, 0)) := by rw [hW]; exact alloc_at _ _ (by simp)
  have lW : W.heap.size = w.heap.size + 2 := by rw [hW]; simp
  rw [hW] at HC
  replace HC : Hid _ := HC
  have HBW : Hid (Below w.heap.size w W) := bW
  have HK : Hid (∀ w1, Below W.heap.size W w1 → w1.heap[w.heap.size]? = some (.cells #[.int .i64 k, .string s, .int .i64 n, .slice ao ks.length cap] 31 (0, 0)) ∧ w1.heap[w.heap.size + 1]? = some (.cells #[.int .i64 0, .string ⟨#[]⟩, .int .i64 0, .slice none 0 0] 31 (0, 0))) := fun w1 hb => ⟨(hb.block _ (by omega)).trans k1, (hb.block _ (by omega)).trans k2⟩
  clear hks hrow ew k1 k2 bW
  go_enter Tryd.func47, Tryd.ntmps47
  go_wp2_with (go_at_call 71; refine (Calls.mono HC.out ?_); rintro e w1 ⟨sl, F, rfl, hown, hfr, hnd, hb⟩; rw [← hW] at hfr hb; obtain ⟨ao2, len2, cap2, rfl⟩ : ∃ ao2 len2 cap2, sl = .slice ao2 len2 cap2 := (by rcases hown with ⟨rfl, _⟩ | ⟨g, cap, cs, F', rfl, _⟩ <;> exact ⟨_, _, _, rfl⟩); obtain ⟨hb2, hb1⟩ := HK.out w1 hb; have HOWN : Hid (OwnS 31 w1 ks (.slice ao2 len2 cap2) F) := hown; have HFR : Hid (∀ f ∈ F, W.heap.size ≤ f) := hfr; have HBB : Hid (Below W.heap.size W w1) := hb; have y0 := blk_cell (i := 0) hb2 (by simp); have y1 := blk_cell (i := 1) hb2 (by simp); have y2 := blk_cell (i := 2) hb2 (by simp); have y3 := blk_cell (i := 3) hb2 (by simp); have z3 := blk_frozen hb2 3; have x0 := blk_cell (i := 0) hb1 (by simp); have x1 := blk_cell (i := 1) hb1 (by simp); have x2 := blk_cell (i := 2) hb1 (by simp); have x3 := blk_cell (i := 3) hb1 (by simp); have u0 := blk_frozen hb1 0; have u1 := blk_frozen hb1 1; have u2 := blk_frozen hb1 2; have u3 := blk_frozen hb1 3; simp only [List.getElem_toArray, List.getElem_cons_zero, List.getElem_cons_succ] at y0 y1 y2 y3 x0 x1 x2 x3; have H1 : Hid (w1.heap[w.heap.size + 1]? = some (.cells #[.int .i64 0, .string ⟨#[]⟩, .int .i64 0, .slice none 0 0] 31 (0, 0))) := hb1; clear hown hfr hb hb2 hb1)
  have hsz := HBB.out.size
  have hR : (((((w1.setCell ⟨w.heap.size, 3, none⟩ (.slice ao2 len2 cap2)).setCell ⟨w.heap.size + 1, 0, none⟩ (.int .i64 k)).setCell ⟨w.heap.size + 1, 1, none⟩ (.string s)).setCell ⟨w.heap.size + 1, 2, none⟩ (.int .i64 n)).setCell ⟨w.heap.size + 1, 3, none⟩ (.slice ao2 len2 cap2)).heap[w.heap.size + 1]? = some (.cells #[.int .i64 k, .string s, .int .i64 n, .slice ao2 len2 cap2] 31 (0, 0)) := by
    have := blk_set (i := 3) (blk_set (i := 2) (blk_set (i := 1) (blk_set (i := 0) ((blk_other (g := w.heap.size) (i := 3) (w := w1) (.slice ao2 len2 cap2) (show w.heap.size + 1 ≠ w.heap.size by omega)).trans H1.out) (.int .i64 k)) (.string s)) (.int .i64 n)) (.slice ao2 len2 cap2)
    simpa using this
  have hbl : Below w.heap.size w w1 := HBW.out.trans (HBB.out.mono HBW.out.size)
  refine bodyPost_ret_by (results_cell_row rfl _ _ (w.heap.size + 1) 31 _ (0, 0) _ rfl hR Tryd.underlying31 rfl (by kernel_rfl)) rfl ?_
  refine ⟨_, F, rfl, own_mk ?_ hk hn hs, ?_, hnd, ?_⟩
  · refine OwnS.keep HOWN.out fun f hf => ?_
    have := HFR.out f hf
    rw [blk_other _ (by omega), blk_other _ (by omega), blk_other _ (by omega), blk_other _ (by omega), blk_other _ (by omega)]
  · intro f hf
    have := HFR.out f hf
    omega
  · exact below_set (below_set (below_set (below_set (below_set hbl (by omega) _) (by omega) _) (by omega) _) (by omega) _) (by omega) _
end Go.Proofs.YtenmhpalpfppmaoDoor
