/- FnExactBindsNew answers true at every number. No condition. -/
import Derived.Test.YtemhjigfhjlebamBindN
import Derived.ShutString
import Derived.ChangeOld
import Derived.Below
namespace Go.Proofs.Ytemhjigfhjlebam.fnExactBindsNew
open Go.ChangeShapes Go.WideShapes Go.ChangeAt Go.RowKit

theorem markL_small (a : Int) : 1 + 3 * ns (List.replicate (clampN a) zeroTm) ≤ 2305843009213693952 := by
  rw [ns_zeros]; unfold clampN; omega

theorem cell1 {w : World} {g : Nat} {v : Value} {T : TypeId} (h : w.heap[g]? = some (.cells #[v] T (0, 0))) : w.cell? ⟨g, 0, none⟩ = some v := by
  unfold World.cell?; rw [h]; rfl

set_option maxHeartbeats 1000000 in
set_option maxRecDepth 20000 in
theorem walk (a : Int) (w0 : (Lit.int .i64 a).wf = true) (w : World) :
    Calls Try.prog 4 #[.int .i64 a] w fun e w' => e = .returned (.bool true) ∧ Below w.heap.size w w' := by
  obtain ⟨h1, h2⟩ : -9223372036854775808 ≤ a ∧ a ≤ 9223372036854775807 := bounds_i64 w0
  clear w0
  have HM : Hid _ := markL_small a
  obtain ⟨ks, hks⟩ : ∃ ks, ks = List.replicate (clampN a) zeroTm := ⟨_, rfl⟩
  have HS : Hid (∀ w, Calls Try.prog 15 #[.int .i64 a] w fun e w' => ∃ sl g, e = .returned (.agg #[sl]) ∧ OwnS 28 w' ks sl [g] ∧ w.heap.size ≤ g ∧ Below w.heap.size w w') := fun w => by rw [hks]; exact spec_new a w h1 h2
  have HI : Hid (∀ w, Calls Try.prog 16 #[.int .i64 a] w fun e w' => ∃ sl g, e = .returned (.agg #[sl]) ∧ OwnS 28 w' ks sl [g] ∧ w.heap.size ≤ g ∧ Below w.heap.size w w') := fun w => by rw [hks]; exact impl_new a w h1 h2
  rw [← hks] at HM
  clear hks
  go_enter Try.func4, Try.ntmps4
  go_wp2_with (go_at_call 15; refine (Calls.mono (HS.out _) ?_); rintro e w1 ⟨s1, g1, rfl, o1, hg1, b1⟩; obtain ⟨p1, p2, p3, rfl⟩ := ownS_shape o1; have O1 : Hid (SlIn w1 ks (.slice p1 p2 p3)) := OwnS.toIn o1; have B1 : Hid _ := b1; clear o1 b1 hg1)
  obtain ⟨W1, hW1⟩ : ∃ W1, W1 = w1.alloc (.cells #[.slice p1 p2 p3] 35) := ⟨_, rfl⟩
  rw [← hW1]
  have bW1 : Below w1.heap.size w1 W1 := by rw [hW1]; exact (Below.refl _ _).alloc (Nat.le_refl _) _
  have kW1 : W1.heap[w1.heap.size]? = some (.cells #[.slice p1 p2 p3] 35 (0, 0)) := by rw [hW1]; exact alloc_at _ _ rfl
  have lW1 : w1.heap.size < W1.heap.size := by rw [hW1]; simp
  have HS1 : Hid (∀ w', Below W1.heap.size W1 w' → SlIn w' ks (.slice p1 p2 p3) ∧ w'.cell? ⟨w1.heap.size, 0, none⟩ = some (.slice p1 p2 p3)) := fun w' hb =>
    ⟨(O1.out.keep bW1).keep hb, cell1 ((hb.block _ lW1).trans kW1)⟩
  have HB1 : Hid (Below w.heap.size w W1) := B1.out.trans (bW1.mono B1.out.size)
  clear kW1 O1 hW1 B1 bW1
  go_wp2_with (go_at_call 16; refine (Calls.mono (HI.out _) ?_); rintro e w2 ⟨s2, g2, rfl, o2, hg2, b2⟩; obtain ⟨q1, q2, q3, rfl⟩ := ownS_shape o2; have O2 : Hid (OwnS 28 w2 ks (.slice q1 q2 q3) [g2]) := o2; have B2 : Hid _ := b2; have x2 := ((HS1.out w2 b2).2); have y2 : w1.heap.size < w2.heap.size := Nat.lt_of_lt_of_le lW1 b2.size; have L2 : Hid (g2 < w2.heap.size) := o2.lt g2 (by simp); clear o2 b2)
  obtain ⟨W2, hW2⟩ : ∃ W2, W2 = w2.alloc (.cells #[.slice q1 q2 q3] 35) := ⟨_, rfl⟩
  rw [← hW2]
  have bW2 : Below w2.heap.size w2 W2 := by rw [hW2]; exact (Below.refl _ _).alloc (Nat.le_refl _) _
  have kW2 : W2.heap[w2.heap.size]? = some (.cells #[.slice q1 q2 q3] 35 (0, 0)) := by rw [hW2]; exact alloc_at _ _ rfl
  have lW2 : w2.heap.size < W2.heap.size := by rw [hW2]; simp
  have HO2 : Hid (OwnS 28 W2 ks (.slice q1 q2 q3) [g2]) := O2.out.keep fun f hf => bW2.block f (O2.out.lt f hf)
  have HB2 : Hid (Below W1.heap.size W1 W2) := B2.out.trans (bW2.mono B2.out.size)
  have HX2 : Hid (∀ w', Out [g2] W2 w' → w'.cell? ⟨w2.heap.size, 0, none⟩ = some (.slice q1 q2 q3) ∧ Below W1.heap.size W1 w') := fun w' ho =>
    ⟨cell1 ((ho.block _ lW2 (by have := L2.out; simp; omega)).trans kW2), HB2.out.trans (ho.below (by simpa using hg2) HB2.out.size)⟩
  have HE : Hid _ := eq_binds ks W2 _ _ HO2.out.toIn (HS1.out W2 HB2.out).1
  clear kW2 hW2 O2 B2 bW2 x2
  have e1 := (HX2.out W2 (Out.refl _ _)).1
  have e2 := (HS1.out W2 HB2.out).2
  go_wp2_with (go_at_call 17; refine (Calls.mono HE.out ?_); rintro e w3 ⟨rfl, b3⟩; have B3 : Hid (Out [g2] W2 w3) := Out.of_below (F := [g2]) b3; have e3 := (HX2.out w3 B3.out).1; have O3 : Hid (OwnS 28 w3 ks (.slice q1 q2 q3) [g2]) := HO2.out.keep (fun f hf => b3.block f (HO2.out.lt f hf)); clear b3)
  clear HE e1 e2
  have HK : Hid _ := mark_binds ks w3 _ [g2] 1 O3.out (by simp) (by omega) HM.out
  generalize hnx : 1 + 3 * ns ks = nx at *
  have HNX : Hid _ := hnx
  clear hnx
  go_wp2_with (go_at_call 18; refine (Calls.mono HK.out ?_); rintro e w4 ⟨rfl, o4, u4⟩; have O4 : Hid (OwnS 28 w4 (markL ks 1) (.slice q1 q2 q3) [g2]) := o4; have U4 : Hid (Out [g2] W2 w4) := B3.out.trans u4; have e4 := (HX2.out w4 U4.out).1; clear o4 u4)
  have HD : Hid (∀ w', Below w4.heap.size w4 w' → Calls Try.prog 19 #[.agg #[.slice q1 q2 q3], .int .i64 1] w' fun e w2 => e = .returned (.int .i64 (nx : Int)) ∧ Below w'.heap.size w' w2) := fun w' hb => by
    have := held_binds ks w' _ 1 (SlIn.keep (OwnS.toIn O4.out) hb) (by omega) (by have := HNX.out; have := HM.out; omega)
    have e : 1 + 3 * ns ks = nx := HNX.out
    rw [e] at this
    exact this
  have hnn : ¬ (nx : Int) < 0 := by omega
  clear HK
  go_wp2_with (go_at_call 19; refine (Calls.mono (HD.out w4 (Below.refl _ _)) ?_); rintro e w5 ⟨rfl, b5⟩; have B5 : Hid (Below w4.heap.size w4 w5) := b5; clear b5)
  have U5 : Hid (Out [g2] W2 w5) := U4.out.trans (Out.of_below B5.out)
  go_wp2_with (go_at_call 16; refine (Calls.mono (HI.out _) ?_); rintro e w6 ⟨s3, g3, rfl, o6, hg3, b6⟩; obtain ⟨r1, r2, r3, rfl⟩ := ownS_shape o6; have O6 : Hid (SlIn w6 ks (.slice r1 r2 r3)) := OwnS.toIn o6; have B6 : Hid (Below w5.heap.size w5 w6) := b6; have U6 : Hid (Out [g2] W2 w6) := U5.out.trans (Out.of_below b6); have x6 := (HS1.out w6 (HX2.out w6 U6.out).2).2; have y6 : w1.heap.size < w6.heap.size := Nat.lt_of_lt_of_le lW1 (HX2.out w6 U6.out).2.size; clear o6 b6 hg3)
  clear x6
  obtain ⟨W6, hW6⟩ : ∃ W6, W6 = w6.alloc (.cells #[.slice r1 r2 r3] 35) := ⟨_, rfl⟩
  rw [← hW6]
  have bW6 : Below w6.heap.size w6 W6 := by rw [hW6]; exact (Below.refl _ _).alloc (Nat.le_refl _) _
  have U7 : Hid (Out [g2] W2 W6) := U6.out.trans (Out.of_below bW6)
  have HE : Hid _ := eq_binds ks W6 _ _ (SlIn.keep O6.out bW6) (HS1.out W6 (HX2.out W6 U7.out).2).1
  have B7 : Hid (Below w4.heap.size w4 W6) := (B5.out.trans (B6.out.mono B5.out.size)).trans (bW6.mono (Nat.le_trans B5.out.size B6.out.size))
  clear hW6 bW6
  go_wp2_with (go_at_call 17; refine (Calls.mono HE.out ?_); rintro e w7 ⟨rfl, b7⟩; have B8 : Hid (Below w4.heap.size w4 w7) := B7.out.trans (b7.mono B7.out.size); have U8 : Hid (Out [g2] W2 w7) := U7.out.trans (Out.of_below b7); have e7 := (HX2.out w7 U8.out).1; clear b7)
  clear HE
  go_wp2_with (go_at_call 19; refine (Calls.mono (HD.out w7 B8.out) ?_); rintro e w8 ⟨rfl, b8⟩; have U9 : Hid (Out [g2] W2 w8) := U8.out.trans (Out.of_below b8); clear b8)
  go_ret
  exact ⟨rfl, HB1.out.trans ((HX2.out w8 U9.out).2.mono HB1.out.size)⟩

theorem own : ownKnob Try.prog.godebug = none := by kernel_rfl
set_option maxRecDepth 100000 in
theorem lifted (os : Os) (started : os.Started) (H : Type) (enc : TypeId × Value → H) :
    ReturnsInHanded {} Try.checked os 4 .any (Rows.fnExactBindsNewSpec.pre6 enc Try.prog Try.f4 Rows.fnExactBindsNewRow.domain false) (Rows.fnExactBindsNewSpec.post enc Try.prog Try.f4 false true false false) := by
  refine returnsInHanded_of_change (C := Try.checked) own started (by kernel_rfl) Try.func4
    (ChangeSpec.witness6 (enc := enc) (C := Try.checked) false ⟨#[], #[.int .i64 0], []⟩ 8 (by kernel_rfl) (by kernel_rfl) (by kernel_rfl) (by kernel_rfl)) ?_
  intro W base args ds gs before hval0 hW hcnd _
  have hval : ∀ (j : Nat) t v, Try.f4.params[j]? = some t → args[j]? = some v → Value.okWide Try.prog W .any base t v := hval0
  have hW' := hW
  have hlt := hW.lt
  obtain ⟨p, q, hA0, hV, rfl, hfz, hnd⟩ := hW
  have hA : DataW.TrodAll enc Try.prog W 0 (fun _ => true) true Try.f4.params.toList args.toList ds p := hA0
  rw [Try.params4] at hA hval
  obtain ⟨v0, vs0, d0, ds0, p0, q0, hargs, rfl, rfl, h0, r0⟩ := trodAll_cons hA
  obtain ⟨rfl, rfl, rfl⟩ := trodAll_nil r0
  obtain rfl : args = #[v0] := by cases args; simp_all
  obtain ⟨rfl, rfl⟩ := trodVars_none hV
  obtain ⟨a0, rfl, rfl, rfl, w0⟩ := open_int Try.underlying3 (hval 0 3 v0 rfl rfl) h0
  clear hA0 hval0
  refine (walk a0 w0 W ).mono fun e W' ⟨he, bel⟩ => ?_
  subst he
  exact ⟨_, rfl, _, _, _, [], _, [], hW', trodAll_mk1 (shut_bool Try.underlying4 _), (trodAll_cons_mk (shut_int Try.underlying3 w0) trodAll_mk0), rfl, bel.frame _, fun h => by cases h⟩

theorem over : Rows.fnExactBindsNewRow.holds Try.pinned (OpenSpec.ofChange Rows.fnExactBindsNewSpec) :=
  OpenClaim.holds_of_wide 4 Try.f4 rfl rfl rfl rfl rfl rfl rfl ⟨rfl, rfl, rfl, rfl, rfl⟩ rfl rfl rfl rfl rfl (by kernel_rfl) Try.func4 (by kernel_rfl)
    (of_decide_eq_true (by kernel_rfl)) (by unfold Func.isWrapper; first | (rw [if_pos (by decide +kernel)]; kernel_rfl) | (rw [if_neg (by decide +kernel)]; exact ⟨rfl, rfl⟩))
    (fun os started H enc _ => lifted os started H enc)

theorem proved : Rows.FnExactBindsNewSaid := over
#print axioms proved
end Go.Proofs.Ytemhjigfhjlebam.fnExactBindsNew
