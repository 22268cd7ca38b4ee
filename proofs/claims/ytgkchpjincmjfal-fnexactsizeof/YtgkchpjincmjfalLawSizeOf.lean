/- FnExactSizeOf answers true at every term. No condition. -/
import Derived.Test.YtgkchpjincmjfalTmRow
import Derived.Test.YtgkchpjincmjfalTmTo
import Derived.Test.YtgkchpjincmjfalTmEq
import Derived.Test.YtgkchpjincmjfalTmCnt
import Derived.Test.YtgkchpjincmjfalSizeI
import Derived.Deep.RegionWith
import Derived.ChangeOld
namespace Go.Proofs.Ytgkchpjincmjfal.fnExactSizeOf
open Go.ChangeShapes Go.WideShapes Go.ChangeAt Go.RowKit

set_option maxHeartbeats 4000000 in
theorem walk (t : Tm) (v : Value) (w : World) (hin : TmIn w t v) :
    Calls Try.prog 4 #[v] w fun e w' => e = .returned (.bool true) ∧ Below w.heap.size w w' := by
  obtain ⟨k, s, n, ao, len, cap, rfl⟩ : ∃ k s n ao len cap, v = .agg #[.int .i64 k, .string s, .int .i64 n, .slice ao len cap] := by
    obtain ⟨k, s, n, ks⟩ := t
    unfold TmIn at hin
    obtain ⟨ao, cap, rfl, _⟩ := hin
    exact ⟨_, _, _, _, _, _, rfl⟩
  obtain ⟨W, hW⟩ : ∃ W, W = w.alloc (.cells #[.int .i64 k, .string s, .int .i64 n, .slice ao len cap] 24) := ⟨_, rfl⟩
  have hb0 : Below w.heap.size w W := by rw [hW]; exact (Below.refl _ _).alloc (Nat.le_refl _) _
  have hblk : W.heap[w.heap.size]? = some (.cells #[.int .i64 k, .string s, .int .i64 n, .slice ao len cap] 24 (0, 0)) := by rw [hW]; exact alloc_at _ _ rfl
  have hwW : w.heap.size < W.heap.size := by rw [hW]; simp
  have HIN : Hid (∀ w', Below W.heap.size W w' → TmIn w' t (.agg #[.int .i64 k, .string s, .int .i64 n, .slice ao len cap])) := fun w' hb => TmIn.keep hb _ _ (TmIn.keep hb0 _ _ hin)
  have HCELL : Hid (∀ w', Below W.heap.size W w' → w'.cell? ⟨w.heap.size, 0, none⟩ = some (.int .i64 k) ∧ w'.cell? ⟨w.heap.size, 1, none⟩ = some (.string s) ∧ w'.cell? ⟨w.heap.size, 2, none⟩ = some (.int .i64 n) ∧ w'.cell? ⟨w.heap.size, 3, none⟩ = some (.slice ao len cap)) := fun w' hb => by
    have h := (hb.block _ hwW).trans hblk
    exact ⟨blk_cell (i := 0) h (by simp), blk_cell (i := 1) h (by simp), blk_cell (i := 2) h (by simp), blk_cell (i := 3) h (by simp)⟩
  have HSZ := sz_term t W _ 1048576 (HIN.out W (Below.refl _ _)) (by omega)
  clear hin hblk
  by_cases hwt : t.wt ≤ 1048576
  · rw [show szR t.wt 1048576 = ((1048576 - t.wt : Nat) : Int) from if_pos hwt, hW] at HSZ
    replace HSZ : Hid _ := HSZ
    have hl : 0 ≤ ((1048576 - t.wt : Nat) : Int) := by omega
    generalize ((1048576 - t.wt : Nat) : Int) = left at *
    go_enter Try.func4, Try.ntmps4
    go_wp2_with (go_at_call 9; refine (Calls.mono HSZ.out ?_); rintro e w1 ⟨rfl, hb⟩; rw [← hW] at hb; have HB : Hid (Below W.heap.size W w1) := hb; obtain ⟨c0, c1, c2, c3⟩ := HCELL.out w1 hb; clear hb)
    clear c0 c1 c2 c3
    go_at_call 11
    refine (Calls.mono (to_term t w1 _ (HIN.out w1 HB.out) hwt) ?_)
    rintro e w2 ⟨v1, F1, rfl, o1, f1, n1, hb⟩
    have T1 := Own.toIn _ _ _ o1
    replace HB : Hid (Below W.heap.size W w2) := HB.out.trans (hb.mono HB.out.size)
    have HC := specSize t w2 v1 T1
    obtain ⟨k1, s1, m1, ao1, len1, cap1, rfl⟩ := own_shape o1
    replace HC : Hid _ := HC
    clear o1 f1 n1 hb T1
    go_wp2_with (go_at_call 14; refine (Calls.mono HC.out ?_); rintro e w3 ⟨rfl, hb⟩; replace HB : Hid (Below W.heap.size W w3) := HB.out.trans (hb.mono HB.out.size); obtain ⟨c0, c1, c2, c3⟩ := HCELL.out w3 HB.out; clear hb)
    clear c0 c1 c2 c3 HC
    go_at_call 11
    refine (Calls.mono (to_term t w3 _ (HIN.out w3 HB.out) hwt) ?_)
    rintro e w4 ⟨x0, F2, rfl, o2, f2, n2, hb⟩
    replace HB : Hid (Below W.heap.size W w4) := HB.out.trans (hb.mono HB.out.size)
    obtain ⟨k2, s2, m2, ao2, len2, cap2, rfl⟩ := own_shape o2
    have T2 : Hid (TmIn w4 t _) := Own.toIn _ _ _ o2
    clear o2 f2 n2 hb
    go_wp2_with (fail)
    obtain ⟨V, hV⟩ : ∃ V, V = w4.alloc (.cells #[.int .i64 k2, .string s2, .int .i64 m2, .slice ao2 len2 cap2] 29) := ⟨_, rfl⟩
    rw [← hV]
    have hbV : Below w4.heap.size w4 V := by rw [hV]; exact (Below.refl _ _).alloc (Nat.le_refl _) _
    have hblk2 : V.heap[w4.heap.size]? = some (.cells #[.int .i64 k2, .string s2, .int .i64 m2, .slice ao2 len2 cap2] 29 (0, 0)) := by rw [hV]; exact alloc_at _ _ rfl
    have hvV : w4.heap.size < V.heap.size := by rw [hV]; simp
    replace HB : Hid (Below W.heap.size W V) := HB.out.trans (hbV.mono HB.out.size)
    have TV : Hid (∀ w', Below V.heap.size V w' → TmIn w' t (.agg #[.int .i64 k2, .string s2, .int .i64 m2, .slice ao2 len2 cap2])) := fun w' hb => TmIn.keep hb _ _ (TmIn.keep hbV _ _ T2.out)
    have HX : Hid (∀ w', Below V.heap.size V w' → w'.cell? ⟨w4.heap.size, 0, none⟩ = some (.int .i64 k2) ∧ w'.cell? ⟨w4.heap.size, 1, none⟩ = some (.string s2) ∧ w'.cell? ⟨w4.heap.size, 2, none⟩ = some (.int .i64 m2) ∧ w'.cell? ⟨w4.heap.size, 3, none⟩ = some (.slice ao2 len2 cap2)) := fun w' hb => by
      have h := (hb.block _ hvV).trans hblk2
      exact ⟨blk_cell (i := 0) h (by simp), blk_cell (i := 1) h (by simp), blk_cell (i := 2) h (by simp), blk_cell (i := 3) h (by simp)⟩
    clear hV hbV hblk2 hvV T2
    have HC : Hid _ := implSize t V _ (TV.out V (Below.refl _ _))
    go_wp2_with (go_at_call 15; refine (Calls.mono HC.out ?_); rintro e w5 ⟨rfl, hb⟩; have HB5 : Hid (Below V.heap.size V w5) := hb; obtain ⟨x0, x1, x2, x3⟩ := HX.out w5 hb; obtain ⟨c0, c1, c2, c3⟩ := HCELL.out w5 (HB.out.trans (hb.mono HB.out.size)); clear hb)
    have D1 : Hid (Below W.heap.size W w5.drew) := (HB.out.trans (HB5.out.mono HB.out.size)).drew
    have D2 : Hid (Below V.heap.size V w5.drew) := HB5.out.drew
    go_region_with (first
      | (go_at_call 11; refine (Calls.mono (to_term t _ _ (HIN.out _ D1.out) hwt) ?_); rintro e w6 ⟨v3, F3, rfl, o3, f3, n3, hb⟩; have T3 : Hid (TmIn w6 t v3) := Own.toIn _ _ _ o3; have hv6 : Hid (Below V.heap.size V w6) := D2.out.trans (hb.mono D2.out.size); obtain ⟨z0, z1, z2, z3⟩ := HX.out w6 hv6.out; clear o3 f3 n3 hb)
      | (go_at_call 13; refine (Calls.mono (eq_term t _ _ _ (TV.out _ hv6.out) T3.out) ?_); rintro e w7 ⟨rfl, hb⟩; have hv7 : Hid (Below V.heap.size V w7) := hv6.out.trans (hb.mono hv6.out.size); clear hb))
    all_goals
      go_wp2
      go_ret
      exact ⟨rfl, hb0.trans ((HB.out.trans (hv7.out.mono HB.out.size)).mono hb0.size)⟩
  · rw [show szR t.wt 1048576 = -1 from if_neg hwt, hW] at HSZ
    replace HSZ : Hid _ := HSZ
    go_enter Try.func4, Try.ntmps4
    go_wp2_with (go_at_call 9; refine (Calls.mono HSZ.out ?_); rintro e w1 ⟨rfl, hb⟩; rw [← hW] at hb; have HB : Hid (Below w.heap.size w w1) := hb0.trans (hb.mono hb0.size); clear hb)
    go_ret
    exact ⟨rfl, HB.out⟩

theorem own : ownKnob Try.prog.godebug = none := by kernel_rfl
set_option maxRecDepth 100000 in
theorem lifted (os : Os) (started : os.Started) (H : Type) (enc : TypeId × Value → H) :
    ReturnsInHanded {} Try.checked os 4 .any (Rows.fnExactSizeOfSpec.pre6 enc Try.prog Try.f4 Rows.fnExactSizeOfRow.domain false) (Rows.fnExactSizeOfSpec.post enc Try.prog Try.f4 false true false false) := by
  refine returnsInHanded_of_change (C := Try.checked) own started (by kernel_rfl) Try.func4
    (ChangeSpec.witness6 (enc := enc) (C := Try.checked) false ⟨#[], #[.agg #[.int .i64 0, .string .empty, .int .i64 0, .slice none 0 0]], []⟩ 8 (by kernel_rfl) (by kernel_rfl) (by kernel_rfl) (by kernel_rfl)) ?_
  intro W base args ds gs before hval0 hW hcnd _
  have hval : ∀ (j : Nat) t v, Try.f4.params[j]? = some t → args[j]? = some v → Value.okWide Try.prog W .any base t v := hval0
  have hW' := hW
  have hlt := hW.lt
  obtain ⟨p, q, hA0, hV, rfl, hfz, hnd⟩ := hW
  have hA : DataW.TrodAll enc Try.prog W 0 (fun _ => true) true Try.f4.params.toList args.toList ds p := hA0
  rw [Try.params4] at hA hval
  obtain ⟨v0, vs0, d0, ds0, p0, q0, hargs, rfl, rfl, h0, r0⟩ := trodAll_cons hA
  obtain ⟨rfl, rfl, rfl⟩ := trodAll_nil r0
  obtain rfl : args = #[v0] := by cases args; simp_all
  obtain ⟨rfl, rfl⟩ := trodVars_none hV
  obtain ⟨t0, hin0⟩ := tm_split (hval 0 24 v0 rfl rfl) h0
  clear hA0 hval0
  refine (walk t0 v0 W hin0).mono fun e W' ⟨he, bel⟩ => ?_
  subst he
  exact ⟨_, rfl, _, _, _, [], _, [], hW', trodAll_mk1 (shut_bool Try.underlying4 _), (trodAll_cons_mk (Below.trod laidOutT readsTm rowTm h0 bel (fun x hx => hlt x (by simp [hx]))) trodAll_mk0), rfl, bel.frame _, fun h => by cases h⟩

theorem over : Rows.fnExactSizeOfRow.holds Try.pinned (OpenSpec.ofChange Rows.fnExactSizeOfSpec) :=
  OpenClaim.holds_of_wide 4 Try.f4 rfl rfl rfl rfl rfl rfl rfl ⟨rfl, rfl, rfl, rfl, rfl⟩ rfl rfl rfl rfl rfl (by kernel_rfl) Try.func4 (by kernel_rfl)
    (of_decide_eq_true (by kernel_rfl)) (by unfold Func.isWrapper; first | (rw [if_pos (by decide +kernel)]; kernel_rfl) | (rw [if_neg (by decide +kernel)]; exact ⟨rfl, rfl⟩))
    (fun os started H enc _ => lifted os started H enc)

theorem proved : Rows.FnExactSizeOfSaid := over
#print axioms proved
end Go.Proofs.Ytgkchpjincmjfal.fnExactSizeOf
