/- laws.heldClauseS. -/
import Derived.Test.YtmhmlkdoaojimapGreatDoorMrg30
import Derived.Test.YtmhmlkdoaojimapGreatDoorTmHeldS
import Derived.Test.YtmhmlkdoaojimapGreatDoorMrg5
import Derived.Deep.DeepCutAuto
namespace Go.Proofs.YtmhmlkdoaojimapGreatDoor
open Go.RowKit

theorem markCs_at {l : List Cla} {c j : Nat} (h : j < l.length) : (markCs l c)[j]'(by rw [markCs_len]; exact h) = l[j].markT (c + claNs (l.take j)) := by
  induction l generalizing c j with
  | nil => simp at h
  | cons a r ih =>
    cases j with
    | zero => simp [markCs, claNs]
    | succ j =>
      simp only [markCs, List.getElem_cons_succ, List.take_succ_cons, claNs]
      rw [ih (by simpa using h), Nat.add_assoc]
theorem mark_open {w : World} {t : Tm} {i : Nat} {k n : Int} {s : ByteArray} {a : Option Addr} {l m : Nat} (h : TmIn w (t.markT i) (.agg #[.int .i64 k, .string s, .int .i64 n, .slice a l m])) :
    k = (i : Int) ∧ s = ⟨(mkS (i + 1)).toArray⟩ ∧ n = (i : Int) + 1 + 1 ∧ l = t.kids.length ∧ t.kids.length ≤ m ∧ m ≤ maxLen ∧ (t.kids ≠ [] → ∃ b off, a = some ⟨b, off, none⟩ ∧ TmsIn w (markL t.kids (i + 3)) b off) ∧ t.n = 1 + ns t.kids := by
  obtain ⟨k', s', n', ks⟩ := t
  rw [markT_mk] at h
  unfold TmIn at h
  obtain ⟨ao, cap, he, _, _, _, hl, hm, hr⟩ := h
  rw [markL_len] at he hl
  simp only [Value.agg.injEq, Array.mk.injEq, List.cons.injEq, Value.int.injEq, Value.string.injEq, Value.slice.injEq, and_true, true_and] at he
  obtain ⟨rfl, rfl, rfl, rfl, rfl, rfl⟩ := he
  refine ⟨rfl, rfl, by omega, rfl, hl, hm, fun h0 => hr fun e => h0 ?_, n_mk _ _ _ _⟩
  show ks = []
  rw [← List.length_eq_zero_iff, ← markL_len ks (i + 3), e]; rfl

set_option maxHeartbeats 8000000 in
set_option maxRecDepth 20000 in
theorem held_clauses (ks : List Cla) (w : World) (sl : Value) (c : Nat) (h : ClsIn w (markCs ks c) sl) (hc0 : 0 < c) (hcm : c + claNs ks ≤ 2000000000) :
    Calls Tryz.prog 32 #[sl, .int .i64 (c : Int)] w fun e w' => e = .returned (.int .i64 ((c + claNs ks : Nat) : Int)) ∧ Below w.heap.size w w' := by
  obtain ⟨ao, cap, rfl, hlen, hcap, hrow⟩ := h
  rw [markCs_len] at hlen ⊢
  unfold maxLen at hcap
  have HR : Hid (∀ wr, Below w.heap.size w wr → ks ≠ [] → ∃ b off, ao = some ⟨b, off, none⟩ ∧ ∀ j (hj : j < ks.length), ClaAt wr (ks[j].markT (c + claNs (ks.take j))) b (off + j * 9)) := fun wr hb h0 => by
    obtain ⟨b, off, e, hr⟩ := hrow (by intro e; apply h0; rw [← List.length_eq_zero_iff, ← markCs_len ks c, e]; rfl)
    refine ⟨b, off, e, fun j hj => ?_⟩
    have := hr j (by rw [markCs_len]; exact hj)
    rw [markCs_at hj] at this
    exact this.keep hb
  clear hrow
  have HBD : Hid (∀ j, c + claNs (ks.take j) ≤ c + claNs ks) := fun j => by
    have : claNs (ks.take j) + claNs (ks.drop j) = claNs ks := by rw [← claNs_append, List.take_append_drop]
    omega
  have HCM : Hid _ := hcm
  clear hcm
  go_enter Tryz.func32, Tryz.ntmps32
  go_wp2
  go_loopw [1, 5] (fun vk vi wr => Hid (Below w.heap.size w wr) ∧ ∃ (j cj : Nat), j ≤ ks.length ∧ vi = .int .i64 (j : Int) ∧ vk = .int .i64 (cj : Int) ∧ Hid (cj = c + claNs (ks.take j))) (fun _ i _ => ks.length - (intOf i).toNat)
  case atStart => exact ⟨Below.refl _ _, 0, c, by omega, rfl, rfl, by show _ = _; simp [claNs]⟩
  case round =>
    obtain ⟨HB, j, cj, hj, rfl, rfl, HCJ⟩ := hrel
    by_cases hlt : j < ks.length
    · obtain ⟨b, off, rfl, hin⟩ := HR.out wr HB.out (by intro e; subst e; simp at hlt)
      have hat := hin j hlt
      obtain ⟨kj, hkj⟩ : ∃ kj, kj = ks[j] := ⟨_, rfl⟩
      have hcn : claNs (ks.take (j + 1)) = claNs (ks.take j) + kj.n := by rw [List.take_succ_eq_append_getElem hlt, claNs_append, hkj]; simp [claNs]
      rw [← hkj, ← HCJ.out] at hat
      have hbd := HBD.out (j + 1)
      have hcmx := HCM.out
      have hcj := HCJ.out
      clear hkj
      obtain ⟨kh, kb, kf⟩ := kj
      have hen : (⟨kh, kb, kf⟩ : Cla).n = 3 * kh.n + 3 * kb.n + 1 := rfl
      obtain ⟨k1, s1, n1, a1, l1, m1, k2, s2, n2, a2, l2, m2, h0, h1, h2, h3, h4, h5, h6, h7, h8, -, i1, i2⟩ := hat
      simp only [Cla.markT] at h8 i1 i2
      obtain ⟨rfl, rfl, rfl, rfl, hl1, hm1, hr1, en1⟩ := mark_open i1
      obtain ⟨d, hd⟩ : ∃ d, d = cj + 3 * kh.n := ⟨_, rfl⟩
      rw [← hd] at i2 h8
      obtain ⟨rfl, rfl, rfl, rfl, hl2, hm2, hr2, en2⟩ := mark_open i2
      obtain ⟨e, he⟩ : ∃ e, e = d + 3 * kb.n := ⟨_, rfl⟩
      rw [← he] at h8
      have hbe : e + 1 ≤ 2000000000 := by omega
      obtain ⟨t1, ht1⟩ : ∃ t1 : ByteArray, t1 = ⟨(mkS (cj + 1)).toArray⟩ := ⟨_, rfl⟩
      obtain ⟨t2, ht2⟩ : ∃ t2 : ByteArray, t2 = ⟨(mkS (d + 1)).toArray⟩ := ⟨_, rfl⟩
      obtain ⟨t3, ht3⟩ : ∃ t3 : ByteArray, t3 = ⟨(mkS e).toArray⟩ := ⟨_, rfl⟩
      rw [← ht1] at h1
      rw [← ht2] at h5
      rw [← ht3] at h8
      have HMK1 : Hid (∀ w, Calls Tryz.prog 48 #[.int .i64 ((cj : Int) + 1)] w fun e w' => e = .returned (.string t1) ∧ Below w.heap.size w w') := fun w => by
        have := mark_any (cj + 1) w (by omega) (by omega)
        rw [ht1]
        rwa [show ((cj + 1 : Nat) : Int) = (cj : Int) + 1 by omega] at this
      have HMK2 : Hid (∀ w, Calls Tryz.prog 48 #[.int .i64 ((d : Int) + 1)] w fun e w' => e = .returned (.string t2) ∧ Below w.heap.size w w') := fun w => by
        have := mark_any (d + 1) w (by omega) (by omega)
        rw [ht2]
        rwa [show ((d + 1 : Nat) : Int) = (d : Int) + 1 by omega] at this
      have HMK3 : Hid (∀ w, Calls Tryz.prog 48 #[.int .i64 (e : Int)] w fun e w' => e = .returned (.string t3) ∧ Below w.heap.size w w') := fun w => by
        rw [ht3]
        exact mark_any e w (by omega) (by omega)
      have HREC1 : Hid (∀ w1, Below wr.heap.size wr w1 → Calls Tryz.prog 50 #[.slice a1 kh.kids.length m1, .int .i64 ((cj : Int) + 1 + 1 + 1)] w1 fun e w' => e = .returned (.int .i64 (d : Int)) ∧ Below w1.heap.size w1 w') := fun w1 hb => by
        have := held_all kh.kids w1 a1 m1 (cj + 3) (by omega) (by omega) hl1 hm1 (fun h0 => by
          obtain ⟨b1, off1, e1, hr⟩ := hr1 h0
          exact ⟨b1, off1, e1, TmsIn.keep hb _ _ _ hr⟩)
        rwa [show ((cj + 3 : Nat) : Int) = (cj : Int) + 1 + 1 + 1 by omega, show cj + 3 + 3 * ns kh.kids = d by omega] at this
      have HREC2 : Hid (∀ w1, Below wr.heap.size wr w1 → Calls Tryz.prog 50 #[.slice a2 kb.kids.length m2, .int .i64 ((d : Int) + 1 + 1 + 1)] w1 fun e' w' => e' = .returned (.int .i64 (e : Int)) ∧ Below w1.heap.size w1 w') := fun w1 hb => by
        have := held_all kb.kids w1 a2 m2 (d + 3) (by omega) (by omega) hl2 hm2 (fun h0 => by
          obtain ⟨b1, off1, e1, hr⟩ := hr2 h0
          exact ⟨b1, off1, e1, TmsIn.keep hb _ _ _ hr⟩)
        rwa [show ((d + 3 : Nat) : Int) = (d : Int) + 1 + 1 + 1 by omega, show d + 3 + 3 * ns kb.kids = e by omega] at this
      have HCL : Hid (∀ w1, Below wr.heap.size wr w1 → w1.cell? ⟨b, off + j * 9, none⟩ = some (.int .i64 (cj : Int)) ∧ w1.cell? ⟨b, off + j * 9 + 1, none⟩ = some (.string t1) ∧ w1.cell? ⟨b, off + j * 9 + 2, none⟩ = some (.int .i64 ((cj : Int) + 1 + 1)) ∧ w1.cell? ⟨b, off + j * 9 + 3, none⟩ = some (.slice a1 kh.kids.length m1) ∧
          w1.cell? ⟨b, off + j * 9 + 4, none⟩ = some (.int .i64 (d : Int)) ∧ w1.cell? ⟨b, off + j * 9 + 5, none⟩ = some (.string t2) ∧ w1.cell? ⟨b, off + j * 9 + 6, none⟩ = some (.int .i64 ((d : Int) + 1 + 1)) ∧ w1.cell? ⟨b, off + j * 9 + 7, none⟩ = some (.slice a2 kb.kids.length m2) ∧ w1.cell? ⟨b, off + j * 9 + 8, none⟩ = some (.string t3)) := fun w1 hb =>
        ⟨cell_keep h0 hb, cell_keep h1 hb, cell_keep h2 hb, cell_keep h3 hb, cell_keep h4 hb, cell_keep h5 hb, cell_keep h6 hb, cell_keep h7 hb, cell_keep h8 hb⟩
      have HNC : Hid (e + 1 = c + claNs (ks.take (j + 1))) := by show _ = _; omega
      have hdi : (d : Int) ≤ 2000000000 := by omega
      have hei : (e : Int) < 2000000000 := by omega
      have hcji : (cj : Int) ≤ 2000000000 := by omega
      have hji : (j : Int) < 9223372036854775807 := by omega
      have HI : Hid ((d : Int) ≤ 2000000000 ∧ (e : Int) < 2000000000 ∧ (cj : Int) ≤ 2000000000 ∧ (j : Int) < 9223372036854775807) := ⟨hdi, hei, hcji, hji⟩
      have hd0 : ¬ (d : Int) < 0 := by omega
      have he0 : ¬ (e : Int) < 0 := by omega
      generalize kh.kids.length = q1 at *
      generalize kb.kids.length = q2 at *
      clear hin hr1 hr2 i1 i2 ht1 ht2 ht3 HR HBD HCM HCJ hcj hcmx hbd hen en1 en2 hcn hl1 hl2 hm1 hm2 hd he hbe hcap hlen hc0 h1 h2 h3 h4 h5 h6 h7 h8
      go_upto_region 7 with fail
      clear h0
      have l1 : ∀ u, (later wr u).cell? ⟨b, off + j * 9 + 1, none⟩ = some (.string t1) := fun u => (HCL.out _ (later_below wr u)).2.1
      refine wp_region_later (by kernel_rfl) (by kernel_rfl) ?_
      repeat (go_big_quiet_step ((go_at_call 48; exact Calls.later_of_below (HMK1.out _))))
      refine wpQuiet_nil ?_
      rintro _ ⟨u, rfl⟩
      have HB1 : Hid (Below wr.heap.size wr (later wr u)) := later_below wr u
      generalize later wr u = w1 at *
      clear l1
      obtain ⟨m0, m1', m2', m3, m4, m5, m6, m7, m8⟩ := HCL.out w1 HB1.out
      go_upto_region 14 with (go_at_call 50; refine (Calls.mono (HREC1.out w1 HB1.out) ?_); rintro _ w2 ⟨rfl, hb⟩; have HB2 : Hid (Below wr.heap.size wr w2) := HB1.out.trans (hb.mono HB1.out.size); clear hb)
      clear m0 m1' m2' m3 m4 m5 m6 m7 m8
      obtain ⟨m0, m1', m2', m3, m4, m5, m6, m7, m8⟩ := HCL.out w2 HB2.out
      clear he0 hei hcji hdi hji
      go_upto_region 16 with fail
      obtain ⟨hdi, hei, hcji, hji⟩ := HI.out
      go_upto_region 19 with fail
      clear m0 m1' m2' m3 m4 m5 m6 m7 m8
      have l1 : ∀ u, (later w2 u).cell? ⟨b, off + j * 9 + 5, none⟩ = some (.string t2) := fun u => (HCL.out _ (HB2.out.trans ((later_below w2 u).mono HB2.out.size))).2.2.2.2.2.1
      refine wp_region_later (by kernel_rfl) (by kernel_rfl) ?_
      repeat (go_big_quiet_step ((go_at_call 48; exact Calls.later_of_below (HMK2.out _))))
      refine wpQuiet_nil ?_
      rintro _ ⟨u, rfl⟩
      have HB3 : Hid (Below wr.heap.size wr (later w2 u)) := HB2.out.trans ((later_below w2 u).mono HB2.out.size)
      generalize later w2 u = w3 at *
      clear l1
      obtain ⟨m0, m1', m2', m3, m4, m5, m6, m7, m8⟩ := HCL.out w3 HB3.out
      go_upto_region 26 with (go_at_call 50; refine (Calls.mono (HREC2.out w3 HB3.out) ?_); rintro _ w4 ⟨rfl, hb⟩; have HB4 : Hid (Below wr.heap.size wr w4) := HB3.out.trans (hb.mono HB3.out.size); clear hb)
      clear hdi hei hcji hji hd0
      have he0 : ¬ (e : Int) < 0 := by omega
      go_upto_region 28 with fail
      obtain ⟨hdi, hei, hcji, hji⟩ := HI.out
      clear m0 m1' m2' m3 m4 m5 m6 m7 m8
      have l1 : ∀ u, (later w4 u).cell? ⟨b, off + j * 9 + 8, none⟩ = some (.string t3) := fun u => (HCL.out _ (HB4.out.trans ((later_below w4 u).mono HB4.out.size))).2.2.2.2.2.2.2.2
      refine wp_region_later (by kernel_rfl) (by kernel_rfl) ?_
      repeat (go_big_quiet_step ((go_at_call 48; exact Calls.later_of_below (HMK3.out _))))
      refine wpQuiet_nil ?_
      rintro _ ⟨u, rfl⟩
      have HB5 : Hid (Below w.heap.size w (later w4 u)) := HB.out.trans ((HB4.out.trans ((later_below w4 u).mono HB4.out.size)).mono HB.out.size)
      generalize later w4 u = w5 at *
      clear l1
      go_wp2
      go_roundw
      case rel => exact ⟨HB5.out, j + 1, e + 1, by omega, by go_num, by go_num, HNC.out⟩
      case measure => simp [intOf]; omega
    · have HC2 : Hid (cj = c + claNs ks) := by
        have := HCJ.out
        rw [List.take_of_length_le (by omega)] at this
        exact this
      clear HCJ HBD HR HCM
      go_wp2
      go_ret
      exact ⟨by rw [← HC2.out]; rfl, HB.out⟩
end Go.Proofs.YtmhmlkdoaojimapGreatDoor
