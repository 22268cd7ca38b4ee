/- FnExactSameTerm answers true at every two terms. No condition. -/
import Derived.Test.YtgkchpjincmjfalTmRow
import Derived.Test.YtgkchpjincmjfalTmTo
import Derived.Test.YtgkchpjincmjfalTmEq
import Derived.Test.YtgkchpjincmjfalTmSame
import Derived.Test.YtgkchpjincmjfalShapeJ
import Derived.Test.YtgkchpjincmjfalTmMarkP
import Derived.Deep.RegionWith
import Derived.ChangeOld
import Derived.Test.YtgkchpjincmjfalRegLater
namespace Go.Proofs.Ytgkchpjincmjfal.fnExactSameTerm
open Go.ChangeShapes Go.WideShapes Go.ChangeAt Go.RowKit

theorem specSame (t u : Tm) (w : World) (va vb : Value) (ha : TmIn w t va) (hb : TmIn w u vb) :
    Calls Try.prog 16 #[va, vb] w fun e w' => e = .returned (.bool (t.same u)) ∧ Below w.heap.size w w' := same_term t w u va vb ha hb

set_option maxHeartbeats 4000000 in
set_option maxRecDepth 20000 in
theorem walk (t : Tm) (v : Value) (u : Tm) (v' : Value) (w : World) (hin : TmIn w t v) (hin' : TmIn w u v') :
    Calls Try.prog 5 #[v, v'] w fun e w' => e = .returned (.bool true) ∧ Below w.heap.size w w' := by
  obtain ⟨ka, sa, na, aoa, lena, capa, rfl⟩ := tm_shape hin
  obtain ⟨kb, sb, nb, aob, lenb, capb, rfl⟩ := tm_shape hin'
  obtain ⟨W, hW⟩ : ∃ W, W = (w.alloc (.cells #[.int .i64 ka, .string sa, .int .i64 na, .slice aoa lena capa] 24)).alloc (.cells #[.int .i64 kb, .string sb, .int .i64 nb, .slice aob lenb capb] 24) := ⟨_, rfl⟩
  have hb0 : Below w.heap.size w W := by rw [hW]; exact ((Below.refl _ _).alloc (Nat.le_refl _) _).alloc (by simp) _
  have HIN : Hid (∀ w', Below W.heap.size W w' → TmIn w' t (.agg #[.int .i64 ka, .string sa, .int .i64 na, .slice aoa lena capa])) := fun w' hb => TmIn.keep hb _ _ (TmIn.keep hb0 _ _ hin)
  have HIN' : Hid (∀ w', Below W.heap.size W w' → TmIn w' u (.agg #[.int .i64 kb, .string sb, .int .i64 nb, .slice aob lenb capb])) := fun w' hb => TmIn.keep hb _ _ (TmIn.keep hb0 _ _ hin')
  have HCELL : Hid (∀ w', Below W.heap.size W w' → w'.cell? ⟨w.heap.size, 0, none⟩ = some (.int .i64 ka) ∧ w'.cell? ⟨w.heap.size, 1, none⟩ = some (.string sa) ∧ w'.cell? ⟨w.heap.size, 2, none⟩ = some (.int .i64 na) ∧ w'.cell? ⟨w.heap.size, 3, none⟩ = some (.slice aoa lena capa)) := fun w' hb =>
    ⟨cell_keep (w := W) (by rw [hW]; simp) hb, cell_keep (w := W) (by rw [hW]; simp) hb, cell_keep (w := W) (by rw [hW]; simp) hb, cell_keep (w := W) (by rw [hW]; simp) hb⟩
  have HCELL' : Hid (∀ w', Below W.heap.size W w' → w'.cell? ⟨w.heap.size + 1, 0, none⟩ = some (.int .i64 kb) ∧ w'.cell? ⟨w.heap.size + 1, 1, none⟩ = some (.string sb) ∧ w'.cell? ⟨w.heap.size + 1, 2, none⟩ = some (.int .i64 nb) ∧ w'.cell? ⟨w.heap.size + 1, 3, none⟩ = some (.slice aob lenb capb)) := fun w' hb =>
    ⟨cell_keep (w := W) (by rw [hW]; simp) hb, cell_keep (w := W) (by rw [hW]; simp) hb, cell_keep (w := W) (by rw [hW]; simp) hb, cell_keep (w := W) (by rw [hW]; simp) hb⟩
  have HSZ := sz_term t W _ 1048576 (HIN.out W (Below.refl _ _)) (by omega)
  replace hb0 : Hid _ := hb0
  clear hin hin'
  by_cases hwt : t.wt ≤ 1048576
  rotate_left
  · rw [show szR t.wt 1048576 = -1 from if_neg hwt, hW] at HSZ
    replace HSZ : Hid _ := HSZ
    go_enter Try.func5, Try.ntmps5
    go_wp2_with (go_at_call 9; refine (Calls.mono HSZ.out ?_); rintro e w1 ⟨rfl, hb⟩; rw [← hW] at hb; have HB : Hid (Below w.heap.size w w1) := hb0.out.trans (hb.mono hb0.out.size); clear hb)
    go_ret
    exact ⟨rfl, HB.out⟩
  rw [show szR t.wt 1048576 = ((1048576 - t.wt : Nat) : Int) from if_pos hwt, hW] at HSZ
  replace HSZ : Hid _ := HSZ
  have hl : 0 ≤ ((1048576 - t.wt : Nat) : Int) := by omega
  have hrl : 1048576 - t.wt ≤ 1048576 := by omega
  generalize 1048576 - t.wt = left at *
  go_enter Try.func5, Try.ntmps5
  go_wp2_with (fail)
  go_at_call 9
  refine (Calls.mono HSZ.out ?_)
  rintro e w1 ⟨rfl, hb⟩
  rw [← hW] at hb
  have HB : Hid (Below W.heap.size W w1) := hb
  obtain ⟨c0, c1, c2, c3⟩ := HCELL'.out w1 hb
  clear hb HSZ
  have HSZ := sz_term u w1 _ left (HIN'.out w1 HB.out) hrl
  by_cases hwu : u.wt ≤ left
  rotate_left
  · rw [show szR u.wt left = -1 from if_neg hwu] at HSZ
    replace HSZ : Hid _ := HSZ
    go_wp2_with (go_at_call 9; refine (Calls.mono HSZ.out ?_); rintro e w2 ⟨rfl, hb⟩; have HB2 : Hid (Below w.heap.size w w2) := hb0.out.trans ((HB.out.trans (hb.mono HB.out.size)).mono hb0.out.size); clear hb)
    go_ret
    exact ⟨rfl, HB2.out⟩
  rw [show szR u.wt left = ((left - u.wt : Nat) : Int) from if_pos hwu] at HSZ
  replace HSZ : Hid _ := HSZ
  have hwu' : u.wt ≤ 1048576 := by omega
  have hl2 : 0 ≤ ((left - u.wt : Nat) : Int) := by omega
  generalize ((left - u.wt : Nat) : Int) = left2 at *
  go_wp2_with (go_at_call 9; refine (Calls.mono HSZ.out ?_); rintro e w2 ⟨rfl, hb⟩; have HB2 : Hid (Below W.heap.size W w2) := HB.out.trans (hb.mono HB.out.size); obtain ⟨a0, a1, a2, a3⟩ := HCELL.out w2 HB2.out; obtain ⟨b0, b1, b2, b3⟩ := HCELL'.out w2 HB2.out; clear hb)
  clear HSZ HB c0 c1 c2 c3
  have D0 : Hid (Below W.heap.size W w2.drew) := HB2.out.drew
  go_region_with (first
    | (go_at_call 11; refine (Calls.mono (to_term _ _ _ (by first | exact HIN.out _ D0.out | exact HIN'.out _ D0.out) (by first | exact hwt | exact hwu')) ?_); rintro e w3 ⟨v1, F1, rfl, o1, f1, g1, hb⟩; have T1 : Hid (TmIn w3 _ v1) := Own.toIn _ _ _ o1; have D1 : Hid (Below W.heap.size W w3) := D0.out.trans (hb.mono D0.out.size); obtain ⟨i0, i1, i2, i3⟩ := HCELL.out w3 D1.out; obtain ⟨j0, j1, j2, j3⟩ := HCELL'.out w3 D1.out; clear o1 f1 g1 hb)
    | (go_at_call 11; refine (Calls.mono (to_term _ _ _ (by first | exact HIN.out _ D1.out | exact HIN'.out _ D1.out) (by first | exact hwt | exact hwu')) ?_); rintro e w4 ⟨v2, F2, rfl, o2, f2, g2, hb⟩; have T2 : Hid (TmIn w4 _ v2) := Own.toIn _ _ _ o2; replace T1 : Hid (TmIn w4 _ v1) := TmIn.keep hb _ _ T1.out; have D2 : Hid (Below W.heap.size W w4) := D1.out.trans (hb.mono D1.out.size); clear o2 f2 g2 hb)
    | (go_at_call 16; refine (Calls.mono (specSame _ _ _ _ _ T1.out T2.out) ?_); rintro e w5 ⟨rfl, hb⟩; have D3 : Hid (Below W.heap.size W w5) := D2.out.trans (hb.mono D2.out.size); obtain ⟨x0, x1, x2, x3⟩ := HCELL.out w5 D3.out; clear hb))
  all_goals
    go_wp2_with (fail)
    go_at_call 11
    refine (Calls.mono (to_term t _ _ (HIN.out _ D3.out) hwt) ?_)
    rintro e w6 ⟨va, Fa, rfl, o3, f3, g3, hb⟩
    have D4 : Hid (Below W.heap.size W w6) := D3.out.trans (hb.mono D3.out.size)
    obtain ⟨kc, sc, nc, aoc, lenc, capc, rfl⟩ := own_shape o3
    have T3 := Own.toIn _ _ _ o3
    have Z3 := Own.toZ _ _ _ o3
    clear o3 f3 g3 hb x0 x1 x2 x3 T1 T2 D0 D1 D2 D3 HB2
    obtain ⟨V1, hV1⟩ : ∃ V1, V1 = w6.alloc (.cells #[.int .i64 kc, .string sc, .int .i64 nc, .slice aoc lenc capc] 29) := ⟨_, rfl⟩
    have hbV1 : Below w6.heap.size w6 V1 := by rw [hV1]; exact (Below.refl _ _).alloc (Nat.le_refl _) _
    have hv1 : w6.heap.size < V1.heap.size := by rw [hV1]; simp
    have hblk1 : V1.heap[w6.heap.size]? = some (.cells #[.int .i64 kc, .string sc, .int .i64 nc, .slice aoc lenc capc] 29 (0, 0)) := by rw [hV1]; exact alloc_at _ _ rfl
    have D5 : Hid (Below W.heap.size W V1) := D4.out.trans (hbV1.mono D4.out.size)
    obtain ⟨y0, y1, y2, y3⟩ := HCELL'.out V1 D5.out
    rw [hV1] at y0 y1 y2 y3
    replace T3 : Hid (∀ w', Below V1.heap.size V1 w' → TmIn w' t (.agg #[.int .i64 kc, .string sc, .int .i64 nc, .slice aoc lenc capc])) := fun w' hb => TmIn.keep hb _ _ (TmIn.keep hbV1 _ _ T3)
    have HX : Hid (∀ w', Below V1.heap.size V1 w' → w'.cell? ⟨w6.heap.size, 0, none⟩ = some (.int .i64 kc) ∧ w'.cell? ⟨w6.heap.size, 1, none⟩ = some (.string sc) ∧ w'.cell? ⟨w6.heap.size, 2, none⟩ = some (.int .i64 nc) ∧ w'.cell? ⟨w6.heap.size, 3, none⟩ = some (.slice aoc lenc capc)) := fun w' hb => by
      have h := (hb.block _ hv1).trans hblk1
      exact ⟨blk_cell (i := 0) h (by simp), blk_cell (i := 1) h (by simp), blk_cell (i := 2) h (by simp), blk_cell (i := 3) h (by simp)⟩
    replace Z3 : Hid (∀ w', Below V1.heap.size V1 w' → TmZ (· < w'.heap.size) w' t (.agg #[.int .i64 kc, .string sc, .int .i64 nc, .slice aoc lenc capc])) := fun w' hb => by
      have h1 := hbV1.trans (hb.mono hbV1.size)
      exact TmZ.mono (fun k (hk : k < w6.heap.size) => Nat.lt_of_lt_of_le hk h1.size) _ _ (TmZ.turn (fun k hk => h1.block k hk) _ _ Z3)
    clear hbV1 hblk1
    go_wp2_with (fail)
    rw [← hV1]
    clear y0 y1 y2 y3
    go_at_call 11
    refine (Calls.mono (to_term u _ _ (HIN'.out _ D5.out) hwu') ?_)
    rintro e w7 ⟨vb, Fb, rfl, o4, f4, g4, hb⟩
    have D6 : Hid (Below W.heap.size W w7) := D5.out.trans (hb.mono D5.out.size)
    have E6 : Hid (Below V1.heap.size V1 w7) := hb
    obtain ⟨kd, sd, nd, aod, lend, capd, rfl⟩ := own_shape o4
    have T4 := Own.toIn _ _ _ o4
    have Z4 := Own.toZ _ _ _ o4
    clear o4 f4 g4 hb hv1 hV1
    obtain ⟨V2, hV2⟩ : ∃ V2, V2 = w7.alloc (.cells #[.int .i64 kd, .string sd, .int .i64 nd, .slice aod lend capd] 29) := ⟨_, rfl⟩
    have hbV2 : Below w7.heap.size w7 V2 := by rw [hV2]; exact (Below.refl _ _).alloc (Nat.le_refl _) _
    have hv2 : w7.heap.size < V2.heap.size := by rw [hV2]; simp
    have hblk2 : V2.heap[w7.heap.size]? = some (.cells #[.int .i64 kd, .string sd, .int .i64 nd, .slice aod lend capd] 29 (0, 0)) := by rw [hV2]; exact alloc_at _ _ rfl
    have D7 : Hid (Below W.heap.size W V2) := D6.out.trans (hbV2.mono D6.out.size)
    have E7 : Hid (Below V1.heap.size V1 V2) := E6.out.trans (hbV2.mono E6.out.size)
    replace T4 : Hid (∀ w', Below V2.heap.size V2 w' → TmIn w' u (.agg #[.int .i64 kd, .string sd, .int .i64 nd, .slice aod lend capd])) := fun w' hb => TmIn.keep hb _ _ (TmIn.keep hbV2 _ _ T4)
    have HY : Hid (∀ w', Below V2.heap.size V2 w' → w'.cell? ⟨w7.heap.size, 0, none⟩ = some (.int .i64 kd) ∧ w'.cell? ⟨w7.heap.size, 1, none⟩ = some (.string sd) ∧ w'.cell? ⟨w7.heap.size, 2, none⟩ = some (.int .i64 nd) ∧ w'.cell? ⟨w7.heap.size, 3, none⟩ = some (.slice aod lend capd)) := fun w' hb => by
      have h := (hb.block _ hv2).trans hblk2
      exact ⟨blk_cell (i := 0) h (by simp), blk_cell (i := 1) h (by simp), blk_cell (i := 2) h (by simp), blk_cell (i := 3) h (by simp)⟩
    obtain ⟨y0, y1, y2, y3⟩ := HX.out V2 E7.out
    obtain ⟨z0, z1, z2, z3⟩ := HY.out V2 (Below.refl _ _)
    rw [hV2] at y0 y1 y2 y3 z0 z1 z2 z3
    replace Z4 : Hid (∀ w', Below V2.heap.size V2 w' → TmZ (· < w'.heap.size) w' u (.agg #[.int .i64 kd, .string sd, .int .i64 nd, .slice aod lend capd])) := fun w' hb => by
      have h1 := hbV2.trans (hb.mono hbV2.size)
      exact TmZ.mono (fun k (hk : k < w7.heap.size) => Nat.lt_of_lt_of_le hk h1.size) _ _ (TmZ.turn (fun k hk => h1.block k hk) _ _ Z4)
    clear hbV2 hblk2
    have HC : Hid _ := implSame t u V2 _ _ (Z3.out V2 E7.out) (Z4.out V2 (Below.refl _ _)) (by have := n_le_wt t; omega)
    go_wp2_with (fail)
    rw [← hV2]
    clear y0 y1 y2 y3 z0 z1 z2 z3
    go_at_call 17
    refine (Calls.mono HC.out ?_)
    rintro e w8 ⟨rfl, hb⟩
    have E8 : Hid (Below V2.heap.size V2 w8) := hb
    clear hb hv2 hV2 HC D6 E6 D4 D5
    have F8 : Hid (Below V1.heap.size V1 w8.drew) := (E7.out.trans (E8.out.mono E7.out.size)).drew
    have G8 : Hid (Below W.heap.size W w8.drew) := (D7.out.trans (E8.out.mono D7.out.size)).drew
    have H8 : Hid (Below V2.heap.size V2 w8.drew) := E8.out.drew
    obtain ⟨y0, y1, y2, y3⟩ := HX.out _ F8.out
    obtain ⟨x0, x1, x2, x3⟩ := HCELL.out _ G8.out
    go_wp2
    go_region_with (first
      | (go_at_call 11; refine (Calls.mono (to_term t _ _ (HIN.out _ G8.out) hwt) ?_); rintro e w9 ⟨v9, F9, rfl, o9, f9, g9, hb⟩; have T9 : Hid (TmIn w9 t v9) := Own.toIn _ _ _ o9; have H9 : Hid (Below V2.heap.size V2 w9) := H8.out.trans (hb.mono H8.out.size); obtain ⟨z0, z1, z2, z3⟩ := HX.out w9 (E7.out.trans (H9.out.mono E7.out.size)); clear o9 f9 g9 hb)
      | (go_at_call 13; refine (Calls.mono (eq_term t _ _ _ (T3.out _ (E7.out.trans (H9.out.mono E7.out.size))) T9.out) ?_); rintro e wA ⟨rfl, hb⟩; have HA : Hid (Below V2.heap.size V2 wA) := H9.out.trans (hb.mono H9.out.size); clear hb))
    all_goals
      have GA : Hid (Below W.heap.size W wA.drew) := (D7.out.trans (HA.out.mono D7.out.size)).drew
      have JA : Hid (Below V2.heap.size V2 wA.drew) := HA.out.drew
      obtain ⟨m0, m1, m2, m3⟩ := HY.out _ JA.out
      obtain ⟨n0, n1, n2, n3⟩ := HCELL'.out _ GA.out
      go_wp2
      go_region_with (first
        | (go_at_call 11; refine (Calls.mono (to_term u _ _ (HIN'.out _ GA.out) hwu') ?_); rintro e wB ⟨vB, FB, rfl, oB, fB, gB, hb⟩; have TB : Hid (TmIn wB u vB) := Own.toIn _ _ _ oB; have HBB : Hid (Below V2.heap.size V2 wB) := JA.out.trans (hb.mono JA.out.size); obtain ⟨q0, q1, q2, q3⟩ := HY.out wB HBB.out; clear oB fB gB hb)
        | (go_at_call 13; refine (Calls.mono (eq_term u _ _ _ (T4.out _ HBB.out) TB.out) ?_); rintro e wC ⟨rfl, hb⟩; have HCC : Hid (Below W.heap.size W wC) := D7.out.trans ((HBB.out.trans (hb.mono HBB.out.size)).mono D7.out.size); clear hb))
      all_goals
        go_wp2
        go_ret
        exact ⟨rfl, hb0.out.trans (HCC.out.mono hb0.out.size)⟩

theorem own : ownKnob Try.prog.godebug = none := by kernel_rfl
set_option maxRecDepth 100000 in
theorem lifted (os : Os) (started : os.Started) (H : Type) (enc : TypeId × Value → H) :
    ReturnsInHanded {} Try.checked os 5 .any (Rows.fnExactSameTermSpec.pre6 enc Try.prog Try.f5 Rows.fnExactSameTermRow.domain false) (Rows.fnExactSameTermSpec.post enc Try.prog Try.f5 false true false false) := by
  refine returnsInHanded_of_change (C := Try.checked) own started (by kernel_rfl) Try.func5
    (ChangeSpec.witness6 (enc := enc) (C := Try.checked) false ⟨#[], #[.agg #[.int .i64 0, .string .empty, .int .i64 0, .slice none 0 0], .agg #[.int .i64 0, .string .empty, .int .i64 0, .slice none 0 0]], []⟩ 8 (by kernel_rfl) (by kernel_rfl) (by kernel_rfl) (by kernel_rfl)) ?_
  intro W base args ds gs before hval0 hW hcnd _
  have hval : ∀ (j : Nat) t v, Try.f5.params[j]? = some t → args[j]? = some v → Value.okWide Try.prog W .any base t v := hval0
  have hW' := hW
  have hlt := hW.lt
  obtain ⟨p, q, hA0, hV, rfl, hfz, hnd⟩ := hW
  have hA : DataW.TrodAll enc Try.prog W 0 (fun _ => true) true Try.f5.params.toList args.toList ds p := hA0
  rw [Try.params5] at hA hval
  obtain ⟨v0, vs0, d0, ds0, p0, q0, hargs, rfl, rfl, h0, r0⟩ := trodAll_cons hA
  obtain ⟨v1, vs1, d1, ds1, p1, q1, rfl, rfl, rfl, h1, r1⟩ := trodAll_cons r0
  obtain ⟨rfl, rfl, rfl⟩ := trodAll_nil r1
  obtain rfl : args = #[v0, v1] := by cases args; simp_all
  obtain ⟨rfl, rfl⟩ := trodVars_none hV
  obtain ⟨t0, hin0⟩ := tm_split (hval 0 24 v0 rfl rfl) h0
  obtain ⟨t1, hin1⟩ := tm_split (hval 1 24 v1 rfl rfl) h1
  clear hA0 hval0
  refine (walk t0 v0 t1 v1 W hin0 hin1).mono fun e W' ⟨he, bel⟩ => ?_
  subst he
  exact ⟨_, rfl, _, _, _, [], _, [], hW', trodAll_mk1 (shut_bool Try.underlying4 _), (trodAll_cons_mk (Below.trod laidOutT readsTm rowTm h0 bel (fun x hx => hlt x (by simp [hx]))) (trodAll_cons_mk (Below.trod laidOutT readsTm rowTm h1 bel (fun x hx => hlt x (by simp [hx]))) trodAll_mk0)), rfl, bel.frame _, fun h => by cases h⟩

theorem over : Rows.fnExactSameTermRow.holds Try.pinned (OpenSpec.ofChange Rows.fnExactSameTermSpec) :=
  OpenClaim.holds_of_wide 5 Try.f5 rfl rfl rfl rfl rfl rfl rfl ⟨rfl, rfl, rfl, rfl, rfl⟩ rfl rfl rfl rfl rfl (by kernel_rfl) Try.func5 (by kernel_rfl)
    (of_decide_eq_true (by kernel_rfl)) (by unfold Func.isWrapper; first | (rw [if_pos (by decide +kernel)]; kernel_rfl) | (rw [if_neg (by decide +kernel)]; exact ⟨rfl, rfl⟩))
    (fun os started H enc _ => lifted os started H enc)

theorem proved : Rows.FnExactSameTermSaid := over
#print axioms proved
end Go.Proofs.Ytgkchpjincmjfal.fnExactSameTerm

