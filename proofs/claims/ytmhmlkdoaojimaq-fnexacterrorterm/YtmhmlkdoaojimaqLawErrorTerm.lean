/- FnExactErrorTerm answers true at every code and text: the code's ErrorTerm answers as the specification's, and its answer owns its memory. No condition. -/
import Derived.Test.YtmhmlkdoaojimaqErrR
import Derived.Test.YtmhmlkdoaojimaqTmEq
import Derived.Test.YtmhmlkdoaojimaqTmMark
import Derived.Test.YtmhmlkdoaojimaqTmHeld
import Derived.Deep.DeepCutAuto
import Derived.OpenShut
import Derived.ShutString
import Derived.ChangeOld
import Derived.Below
namespace Go.Proofs.Ytmhmlkdoaojimaq.fnExactErrorTerm
open Go.ChangeShapes Go.WideShapes Go.ChangeAt Go.RowKit
open Go.ChangeMaps (open_string shut_string)

theorem own : ownKnob Try.prog.godebug = none := by kernel_rfl

set_option maxHeartbeats 8000000 in
set_option maxRecDepth 20000 in
theorem walk (a0 : Int) (w0 : (Lit.int .i64 a0).wf = true) (p : ByteArray) (hp : p.size ≤ maxLen) (w : World) :
    Calls Try.prog 3 #[.int .i64 a0, .string p] w fun e w' => e = .returned (.bool true) ∧ Below w.heap.size w w' := by
  have hc : -9223372036854775808 ≤ a0 ∧ a0 ≤ 9223372036854775807 := bounds_i64 w0
  unfold maxLen at hp
  by_cases hg : 1048576 < p.size
  · go_enter Try.func3, Try.ntmps3
    go_wp2
    go_ret
    exact ⟨rfl, Below.refl _ _⟩
  have hns : ns (errT a0 p).kids = 2 := rfl
  have HSP0 : ∀ u, Calls Try.prog 5 #[.int .i64 a0, .string p] u fun e w' => ∃ v F, e = .returned v ∧ Own 24 w' (errT a0 p) v F ∧ (∀ x ∈ F, u.heap.size ≤ x) ∧ F.Nodup ∧ Below u.heap.size u w' := fun u => s_err a0 hc p (by omega) u
  have HIM0 : ∀ u, Calls Try.prog 6 #[.int .i64 a0, .string p] u fun e w' => ∃ v F, e = .returned v ∧ Own 24 w' (errT a0 p) v F ∧ (∀ x ∈ F, u.heap.size ≤ x) ∧ F.Nodup ∧ Below u.heap.size u w' := fun u => i_err a0 hc p (by omega) u
  obtain ⟨R, hR⟩ : ∃ R, R = errT a0 p := ⟨_, rfl⟩
  rw [← hR] at HSP0 HIM0 hns
  have HSP : Hid _ := HSP0
  have HIM : Hid _ := HIM0
  have HNS : Hid (ns R.kids = 2) := hns
  clear hR HSP0 HIM0 hns hc w0
  go_enter Try.func3, Try.ntmps3
  go_upto_region 4 with (go_at_call 5; refine (Calls.mono (HSP.out _) ?_); rintro e w3 ⟨v3, F3, rfl, o3, _, _, hb⟩; obtain ⟨k3, s3, n3, a3, l3, c3, rfl⟩ := own_shape o3; have T3 : Hid (TmIn w3 R (.agg #[.int .i64 k3, .string s3, .int .i64 n3, .slice a3 l3 c3])) := Own.toIn _ _ _ o3; have HB3 : Hid (Below w.heap.size w w3) := hb; clear o3 hb)
  obtain ⟨W3, hW3⟩ : ∃ W3, W3 = w3.alloc (.cells #[.int .i64 k3, .string s3, .int .i64 n3, .slice a3 l3 c3] 24) := ⟨_, rfl⟩
  rw [← hW3]
  have bW3 : Below w3.heap.size w3 W3 := by rw [hW3]; exact (Below.refl _ _).alloc (Nat.le_refl _) _
  have k6 : W3.heap[w3.heap.size]? = some (.cells #[.int .i64 k3, .string s3, .int .i64 n3, .slice a3 l3 c3] 24 (0, 0)) := by rw [hW3]; exact heap_alloc_new _ _
  have sW3 : W3.heap.size = w3.heap.size + 1 := by rw [hW3]; simp
  obtain ⟨p6, hp6⟩ : ∃ p6, p6 = w3.heap.size := ⟨_, rfl⟩
  have HBB : Hid (Below w.heap.size w W3) := HB3.out.trans (bW3.mono HB3.out.size)
  have t6 : TmIn W3 R (.agg #[.int .i64 k3, .string s3, .int .i64 n3, .slice a3 l3 c3]) := TmIn.keep bW3 _ _ T3.out
  rw [← hp6] at k6 sW3 ⊢
  have H6 : Hid (∀ w', Below W3.heap.size W3 w' → w'.cell? ⟨p6, 0, none⟩ = some (.int .i64 k3) ∧ w'.cell? ⟨p6, 1, none⟩ = some (.string s3) ∧ w'.cell? ⟨p6, 2, none⟩ = some (.int .i64 n3) ∧ w'.cell? ⟨p6, 3, none⟩ = some (.slice a3 l3 c3) ∧ TmIn w' R (.agg #[.int .i64 k3, .string s3, .int .i64 n3, .slice a3 l3 c3])) := fun w' hb => by
    obtain ⟨q0, q1, q2, q3, _⟩ := blk4 ((hb.block p6 (by omega)).trans k6)
    exact ⟨q0, q1, q2, q3, TmIn.keep hb _ _ t6⟩
  clear hW3 bW3 k6 sW3 hp6 t6 T3 HB3
  -- g0
  have HC9 : Hid _ := HIM.out W3
  go_upto_region 5 with (go_at_call 6; refine (Calls.mono HC9.out ?_); rintro e w6 ⟨v9, F9, rfl, o9, f9, nd9, b9⟩; obtain ⟨k9, s9, n9, a9, l9, c9, rfl⟩ := own_shape o9; have O9 : Hid (Own 24 w6 R (.agg #[.int .i64 k9, .string s9, .int .i64 n9, .slice a9 l9 c9]) F9) := o9; have N9 : Hid ((∀ x ∈ F9, W3.heap.size ≤ x) ∧ F9.Nodup) := ⟨f9, nd9⟩; have B9 : Hid (Below W3.heap.size W3 w6) := b9; clear o9 f9 nd9 b9)
  obtain ⟨W6, hW6⟩ : ∃ W6, W6 = w6.alloc (.cells #[.int .i64 k9, .string s9, .int .i64 n9, .slice a9 l9 c9] 24) := ⟨_, rfl⟩
  rw [← hW6]
  have bW6 : Below w6.heap.size w6 W6 := by rw [hW6]; exact (Below.refl _ _).alloc (Nat.le_refl _) _
  have k9b : W6.heap[w6.heap.size]? = some (.cells #[.int .i64 k9, .string s9, .int .i64 n9, .slice a9 l9 c9] 24 (0, 0)) := by rw [hW6]; exact heap_alloc_new _ _
  have HB6 : Hid (Below W3.heap.size W3 W6) := B9.out.trans (bW6.mono B9.out.size)
  have O9' : Hid (Own 24 W6 R (.agg #[.int .i64 k9, .string s9, .int .i64 n9, .slice a9 l9 c9]) F9) := Own.keep _ _ _ O9.out fun x hx => bW6.block x (Own.lt _ _ _ O9.out x hx)
  have L9 : Hid (∀ x ∈ F9, x < w6.heap.size) := Own.lt _ _ _ O9.out
  have sW6 : W6.heap.size = w6.heap.size + 1 := by rw [hW6]; simp
  obtain ⟨p9, hp9⟩ : ∃ p9, p9 = w6.heap.size := ⟨_, rfl⟩
  rw [← hp9] at k9b sW6 L9 ⊢
  have K9 : Hid (W6.heap[p9]? = some (.cells #[.int .i64 k9, .string s9, .int .i64 n9, .slice a9 l9 c9] 24 (0, 0))) := k9b
  clear hW6 bW6 k9b O9 B9 hp9 HC9
  have HALL : Hid (∀ w', Out F9 W6 w' → Below W3.heap.size W3 w' ∧ (w'.cell? ⟨p9, 0, none⟩ = some (.int .i64 k9) ∧ w'.cell? ⟨p9, 1, none⟩ = some (.string s9) ∧ w'.cell? ⟨p9, 2, none⟩ = some (.int .i64 n9) ∧ w'.cell? ⟨p9, 3, none⟩ = some (.slice a9 l9 c9))) := fun w' hu => by
    have hb : Below W3.heap.size W3 w' := HB6.out.trans (hu.below (fun x hx => N9.out.1 x hx) HB6.out.size)
    have hn9 : p9 ∉ F9 := fun hx => by have := L9.out _ hx; omega
    obtain ⟨b0, b1, b2, b3, _⟩ := blk4 ((hu.block p9 (by omega) hn9).trans K9.out)
    exact ⟨hb, b0, b1, b2, b3⟩
  clear K9 L9 HB6 sW6
  -- g0 is w0
  obtain ⟨a1', b0, b1, b2, b3⟩ := HALL.out W6 (Out.refl _ _)
  obtain ⟨x0, x1, x2, x3, x4⟩ := H6.out W6 a1'
  have HE : Hid _ := eq_term R W6 _ _ (Own.toIn _ _ _ O9'.out) x4
  clear x4 a1'
  go_upto_region 7 with (go_at_call 7; refine (Calls.mono HE.out ?_); rintro e w7 ⟨rfl, b7⟩; have U7 : Hid (Below W6.heap.size W6 w7) := b7; clear b7)
  clear b0 b1 b2 b3 x0 x1 x2 x3 HE
  -- g0 owns its memory
  have V12 : Hid (Out F9 W6 w7) := Out.of_below U7.out
  have O9f : Hid (Own 24 w7 R (.agg #[.int .i64 k9, .string s9, .int .i64 n9, .slice a9 l9 c9]) F9) := Own.keep _ _ _ O9'.out fun f hf => U7.out.block f (Own.lt _ _ _ O9'.out f hf)
  obtain ⟨_, b0, b1, b2, b3⟩ := HALL.out w7 V12.out
  have HK := mark_term R w7 _ F9 1 O9f.out N9.out.2 (by omega) (by have := HNS.out; omega)
  have HHD : Hid (∀ w', TmIn w' (R.markK 1) (.agg #[.int .i64 k9, .string s9, .int .i64 n9, .slice a9 l9 c9]) → Calls Try.prog 9 #[.agg #[.int .i64 k9, .string s9, .int .i64 n9, .slice a9 l9 c9], .int .i64 ((1 : Nat) : Int)] w' fun e w2 => e = .returned (.int .i64 ((1 + 3 * ns R.kids : Nat) : Int)) ∧ Below w'.heap.size w' w2) := fun w' h => held_term R w' _ 1 h (by omega) (by have := HNS.out; omega)
  have hn3 : ¬ ((1 + 3 * ns R.kids : Nat) : Int) < 0 := by omega
  generalize 1 + 3 * ns R.kids = nx3 at HK HHD hn3
  replace HK : Hid _ := HK
  go_upto_region 9 with (go_at_call 8; refine (Calls.mono HK.out ?_); rintro e w13 ⟨rfl, o13, u⟩; have U13 : Hid (Out F9 w7 w13) := u; have T13 : Hid (TmIn w13 (R.markK 1) (.agg #[.int .i64 k9, .string s9, .int .i64 n9, .slice a9 l9 c9])) := Own.toIn _ _ _ o13; clear u o13)
  clear b0 b1 b2 b3 HK O9f
  have V13 : Hid (Out F9 W6 w13) := V12.out.trans U13.out
  obtain ⟨_, b0, b1, b2, b3⟩ := HALL.out w13 V13.out
  have HK : Hid _ := HHD.out w13 T13.out
  go_upto_region 15 with (go_at_call 9; refine (Calls.mono HK.out ?_); rintro e w14 ⟨rfl, b14⟩; have U14 : Hid (Below w13.heap.size w13 w14) := b14; clear b14)
  clear b0 b1 b2 b3 HK
  have V14 : Hid (Out F9 W6 w14) := V13.out.trans (Out.of_below U14.out)
  -- once more
  have HC2 : Hid _ := HIM.out w14
  go_upto_region 16 with (go_at_call 6; refine (Calls.mono HC2.out ?_); rintro e w16 ⟨v3, F3, rfl, o3, _, _, hb⟩; obtain ⟨kh, sh, nh, aoh, lenh, caph, rfl⟩ := own_shape o3; have T16 : Hid (TmIn w16 R (.agg #[.int .i64 kh, .string sh, .int .i64 nh, .slice aoh lenh caph])) := Own.toIn _ _ _ o3; have B16 : Hid (Below w14.heap.size w14 w16) := hb; clear o3 hb)
  clear HC2
  obtain ⟨W16, hW16⟩ : ∃ W16, W16 = w16.alloc (.cells #[.int .i64 kh, .string sh, .int .i64 nh, .slice aoh lenh caph] 24) := ⟨_, rfl⟩
  rw [← hW16]
  have bW16 : Below w16.heap.size w16 W16 := by rw [hW16]; exact (Below.refl _ _).alloc (Nat.le_refl _) _
  have k16 : W16.heap[w16.heap.size]? = some (.cells #[.int .i64 kh, .string sh, .int .i64 nh, .slice aoh lenh caph] 24 (0, 0)) := by rw [hW16]; exact heap_alloc_new _ _
  have t16 : TmIn W16 R (.agg #[.int .i64 kh, .string sh, .int .i64 nh, .slice aoh lenh caph]) := TmIn.keep bW16 _ _ T16.out
  have B17 : Hid (Below w14.heap.size w14 W16) := B16.out.trans (bW16.mono B16.out.size)
  have V16 : Hid (Out F9 W6 W16) := V14.out.trans (Out.of_below B17.out)
  have B13 : Hid (Below w13.heap.size w13 W16) := U14.out.trans (B17.out.mono U14.out.size)
  obtain ⟨y0, y1, y2, y3, _⟩ := blk4 k16
  obtain ⟨a1, _⟩ := HALL.out W16 V16.out
  obtain ⟨x0, x1, x2, x3, x4⟩ := H6.out W16 a1
  have HE : Hid _ := eq_term R W16 _ _ t16 x4
  clear x4 a1 t16 hW16 bW16 k16 T16 B16
  go_upto_region 18 with (go_at_call 7; refine (Calls.mono HE.out ?_); rintro e w17 ⟨rfl, b17⟩; have U17 : Hid (Below W16.heap.size W16 w17) := b17; clear b17)
  clear y0 y1 y2 y3 x0 x1 x2 x3 HE
  have V17 : Hid (Out F9 W6 w17) := V16.out.trans (Out.of_below U17.out)
  have B18 : Hid (Below w13.heap.size w13 w17) := B13.out.trans (U17.out.mono B13.out.size)
  obtain ⟨_, b0, b1, b2, b3⟩ := HALL.out w17 V17.out
  have HK : Hid _ := HHD.out w17 (TmIn.keep B18.out _ _ T13.out)
  go_wp2_with (go_at_call 9; refine (Calls.mono HK.out ?_); rintro e w18 ⟨rfl, b18⟩; have U18 : Hid (Below w17.heap.size w17 w18) := b18; clear b18)
  have V18 : Hid (Out F9 W6 w18) := V17.out.trans (Out.of_below U18.out)
  go_ret
  refine ⟨rfl, ?_⟩
  have h1 := (HALL.out w18 V18.out).1
  exact HBB.out.trans (h1.mono HBB.out.size)

set_option maxRecDepth 100000 in
theorem lifted (os : Os) (started : os.Started) (H : Type) (enc : TypeId × Value → H) :
    ReturnsInHanded {} Try.checked os 3 .any (Rows.fnExactErrorTermSpec.pre6 enc Try.prog Try.f3 Rows.fnExactErrorTermRow.domain false) (Rows.fnExactErrorTermSpec.post enc Try.prog Try.f3 false true false false) := by
  refine returnsInHanded_of_change (C := Try.checked) own started (by kernel_rfl) Try.func3
    (ChangeSpec.witness6 (enc := enc) (C := Try.checked) false ⟨#[], #[.int .i64 0, .string .empty], []⟩ 8 (by kernel_rfl) (by kernel_rfl) (by kernel_rfl) (by kernel_rfl)) ?_
  intro W base args ds gs before hval0 hW hcnd _
  have hval : ∀ (j : Nat) t v, Try.f3.params[j]? = some t → args[j]? = some v → Value.okWide Try.prog W .any base t v := hval0
  have hW' := hW
  obtain ⟨p, q, hA0, hV, rfl, hfz, hnd⟩ := hW
  have hA : DataW.TrodAll enc Try.prog W 0 (fun _ => true) true Try.f3.params.toList args.toList ds p := hA0
  rw [Try.params3] at hA hval
  obtain ⟨v0, vs0, d0, ds0, p0, q0, hargs, rfl, rfl, h0, r0⟩ := trodAll_cons hA
  obtain ⟨v1, vs1, d1, ds1, p1, q1, rfl, rfl, rfl, h1, r1⟩ := trodAll_cons r0
  obtain ⟨rfl, rfl, rfl⟩ := trodAll_nil r1
  obtain rfl : args = #[v0, v1] := by cases args; simp_all
  obtain ⟨rfl, rfl⟩ := trodVars_none hV
  obtain ⟨a0, rfl, rfl, rfl, w0⟩ := open_int Try.underlying3 (hval 0 3 v0 rfl rfl) h0
  obtain ⟨s1, rfl, rfl, rfl, m1⟩ := open_string Try.underlying9 (hval 1 9 v1 rfl rfl) h1
  clear hA0 hval0
  refine (walk a0 w0 s1 m1 W).mono fun e W' ⟨he, bel⟩ => ?_
  subst he
  exact ⟨_, rfl, _, _, _, [], _, [], hW', trodAll_mk1 (shut_bool Try.underlying4 _), (trodAll_cons_mk (shut_int Try.underlying3 w0) (trodAll_cons_mk (shut_string Try.underlying9 m1) trodAll_mk0)), rfl, bel.frame _, fun h => by cases h⟩

theorem over : Rows.fnExactErrorTermRow.holds Try.pinned (OpenSpec.ofChange Rows.fnExactErrorTermSpec) :=
  OpenClaim.holds_of_wide 3 Try.f3 rfl rfl rfl rfl rfl rfl rfl ⟨rfl, rfl, rfl, rfl, rfl⟩ rfl rfl rfl rfl rfl (by kernel_rfl) Try.func3 (by kernel_rfl)
    (of_decide_eq_true (by kernel_rfl)) (by unfold Func.isWrapper; first | (rw [if_pos (by decide +kernel)]; kernel_rfl) | (rw [if_neg (by decide +kernel)]; exact ⟨rfl, rfl⟩))
    (fun os started H enc _ => lifted os started H enc)

theorem proved : Rows.FnExactErrorTermSaid := over
#print axioms proved
end Go.Proofs.Ytmhmlkdoaojimaq.fnExactErrorTerm
