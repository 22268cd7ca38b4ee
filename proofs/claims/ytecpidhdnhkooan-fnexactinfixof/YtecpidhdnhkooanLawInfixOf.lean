/- FnExactInfixOf answers true at every text: the code's InfixOf answers as the specification's, field by field. No condition. -/
import Derived.Test.YtecpidhdnhkooanEqOp
import Derived.ChangeOld
import Derived.ChangeMaps
import Derived.ShutString
import Derived.OpenShut
import Derived.Below
namespace Go.Proofs.Ytecpidhdnhkooan.fnExactInfixOf
open Go.ChangeShapes Go.WideShapes Go.ChangeAt Go.RowKit
open Go.ChangeMaps (open_string shut_string)

theorem blk4_keep {w w' : World} {g : Nat} {x : Obj} (hb : Below w.heap.size w w') (h : w.heap[g]? = some x) : w'.heap[g]? = some x := below_heap hb h
set_option maxHeartbeats 4000000 in
theorem walk (s : ByteArray) (hm : s.size ≤ maxLen) (w : World) :
    Calls Try.prog 3 #[.string s] w fun e w' => e = .returned (.bool true) ∧ Below w.heap.size w w' := by
  unfold maxLen at hm
  by_cases hs : (s.size : Int) > 1048576
  · have hd : decide ((1048576 : Int) < (s.size : Int)) = true := by simpa using hs
    go_enter Try.func3, Try.ntmps3
    go_wp2
    go_ret
    exact ⟨rfl, Below.refl _ _⟩
  · have hd : decide ((1048576 : Int) < (s.size : Int)) = false := by simpa using hs
    obtain ⟨o, ho⟩ : ∃ o, o = infixP s := ⟨_, rfl⟩
    have HS : Hid _ := fun w => c_infix s w
    have HI : Hid _ := fun w => i_infix s w (by omega)
    rw [← ho] at HS HI
    have HE : Hid _ := eq_op o
    obtain ⟨t, a, b, c, e⟩ := opV_form o
    rw [e] at HS HI HE
    clear ho e hs hm
    obtain ⟨q, hq⟩ : ∃ q, q = o.isSome := ⟨_, rfl⟩
    rw [← hq] at HS HI
    clear hq
    go_enter Try.func3, Try.ntmps3
    go_wp2_with (first
      | (go_at_call 6; refine (HS.out _).mono ?_; rintro e w1 ⟨rfl, hb1⟩; have HB1 : Hid (Below _ _ w1) := hb1; clear hb1)
      | (go_at_call 7; refine (HI.out _).mono ?_; rintro e w2 ⟨rfl, hb2⟩; have hlt : w1.heap.size < w2.heap.size := Nat.lt_of_lt_of_le (by simp) hb2.size; have HB2 : Hid (Below _ _ w2) := hb2; have hh := below_heap hb2 (heap_alloc_new _ _); obtain ⟨c0, c1, c2, c3, f0, f1, f2, f3⟩ := blk4 hh; clear hb2)
      | (go_at_call 8; refine (HE.out _).mono ?_; rintro e w3 ⟨rfl, hb3⟩; have HB3 : Hid (Below _ _ w3) := hb3; clear hb3))
    go_ret
    refine ⟨rfl, HB1.out.trans ?_⟩
    have h1 := HB1.out.size
    exact (((Below.refl _ _).alloc h1 _).trans (HB2.out.mono (by simp; omega))).trans (((Below.refl _ _).alloc (by omega) _).trans (HB3.out.mono (by simp; omega)))

theorem own : ownKnob Try.prog.godebug = none := by kernel_rfl

set_option maxRecDepth 100000 in
theorem lifted (os : Os) (started : os.Started) (H : Type) (enc : TypeId × Value → H) :
    ReturnsInHanded {} Try.checked os 3 .any (Rows.fnExactInfixOfSpec.pre6 enc Try.prog Try.f3 Rows.fnExactInfixOfRow.domain false) (Rows.fnExactInfixOfSpec.post enc Try.prog Try.f3 false true false false) := by
  refine returnsInHanded_of_change (C := Try.checked) own started (by kernel_rfl) Try.func3
    (ChangeSpec.witness6 (enc := enc) (C := Try.checked) false ⟨#[], #[.string .empty], []⟩ 8 (by kernel_rfl) (by kernel_rfl) (by kernel_rfl) (by kernel_rfl)) ?_
  intro W base args ds gs before hval0 hW hcnd _
  have hval : ∀ (j : Nat) t v, Try.f3.params[j]? = some t → args[j]? = some v → Value.okWide Try.prog W .any base t v := hval0
  have hW' := hW
  obtain ⟨p, q, hA0, hV, rfl, hfz, hnd⟩ := hW
  have hA : DataW.TrodAll enc Try.prog W 0 (fun _ => true) true Try.f3.params.toList args.toList ds p := hA0
  rw [Try.params3] at hA hval
  obtain ⟨v0, vs0, d0, ds0, p0, q0, hargs, rfl, rfl, h0, r0⟩ := trodAll_cons hA
  obtain ⟨rfl, rfl, rfl⟩ := trodAll_nil r0
  obtain rfl : args = #[v0] := by cases args; simp_all
  obtain ⟨rfl, rfl⟩ := trodVars_none hV
  obtain ⟨s0, rfl, rfl, rfl, m0⟩ := open_string Try.underlying9 (hval 0 9 v0 rfl rfl) h0
  clear hA0 hval0
  refine (walk s0 m0 W).mono fun e W' ⟨he, bel⟩ => ?_
  subst he
  exact ⟨_, rfl, _, _, _, [], _, [], hW', trodAll_mk1 (shut_bool Try.underlying4 _), (trodAll_cons_mk (shut_string Try.underlying9 m0) trodAll_mk0), rfl, bel.frame _, fun h => by cases h⟩

theorem over : Rows.fnExactInfixOfRow.holds Try.pinned (OpenSpec.ofChange Rows.fnExactInfixOfSpec) :=
  OpenClaim.holds_of_wide 3 Try.f3 rfl rfl rfl rfl rfl rfl rfl ⟨rfl, rfl, rfl, rfl, rfl⟩ rfl rfl rfl rfl rfl (by kernel_rfl) Try.func3 (by kernel_rfl)
    (of_decide_eq_true (by kernel_rfl)) (by unfold Func.isWrapper; first | (rw [if_pos (by decide +kernel)]; kernel_rfl) | (rw [if_neg (by decide +kernel)]; exact ⟨rfl, rfl⟩))
    (fun os started H enc _ => lifted os started H enc)

theorem proved : Rows.FnExactInfixOfSaid := over
#print axioms proved
end Go.Proofs.Ytecpidhdnhkooan.fnExactInfixOf
