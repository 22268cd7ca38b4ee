/- FnExactSignsOf answers true at every text: the code's SignsOf answers as the specification's, and its answer owns its memory. No condition but what the row itself lays (the two tables of unicode/utf8). -/
import Derived.Test.YtcmnjpoapcoghanDoorCards
import Derived.Test.YtcmnjpoapcoghanDoorTie
import Derived.Test.YtcmnjpoapcoghanDoorSgQ
import Derived.Test.YtcmnjpoapcoghanDoorUtf
import Derived.Lib.LaidU8T
import Derived.Carry
import Derived.ChangeOld
import Derived.ChangeMaps
import Derived.ShutString
import Derived.OpenShut
import Derived.Below
import Derived.Deep.DeepHandedRow
import Derived.Lib.LaidTab
import Derived.Stop.LaidErr
namespace Go.Proofs.YtcmnjpoapcoghanDoor.fnExactSignsOf
open Go.ChangeShapes Go.WideShapes Go.ChangeAt Go.RowKit
open Go.ChangeMaps (open_string shut_string)

theorem own_ne {w : World} {N : Nat} {L : List Sg} {v : Value} (h : SgRow w N L v) {k : Nat} (hk : v.ownBlock = some k) : N ≤ k ∧ k < w.heap.size := by
  rcases h.2 with ⟨e2, _⟩ | ⟨g3, cap, cur, e2, hge, hh, _⟩
  · rw [e2] at hk; cases hk
  · rw [e2] at hk; simp [Value.ownBlock] at hk; subst hk; exact ⟨hge, (Array.getElem?_eq_some_iff.1 hh).1⟩

set_option maxHeartbeats 4000000 in
set_option maxRecDepth 20000 in
theorem walk (s : ByteArray) (m : s.size ≤ maxLen) (w : World) (hT : Lib.Utf8Tabs 0 1 w) :
    Calls Tryd.prog 3 #[.string s] w fun e w' => e = .returned (.bool true) ∧ Below w.heap.size w w' := by
  unfold maxLen at m
  by_cases hs : s.size ≤ 1048576
  · have HSP : Hid (∀ w, Calls Tryd.prog 4 #[.string s] w fun e w' => ∃ v, e = .returned (.tuple #[v, .bool (signsR s).2]) ∧ SgRow w' w.heap.size (signsR s).1 v ∧ Below w.heap.size w w') := spec_all s
    have HIM : Hid (∀ w, Lib.Utf8Tabs 0 1 w → Calls Tryd.prog 5 #[.string s] w fun e w' => ∃ v, e = .returned (.tuple #[v, .bool (signsR s).2]) ∧ SgRow w' w.heap.size (signsR s).1 v ∧ Below w.heap.size w w') := fun w h => impl_all s w h
    have hlen := signsR_len s
    generalize (signsR s).1 = L at *
    generalize (signsR s).2 = bb at *
    have HT : Hid (∀ w', Below w.heap.size w w' → Lib.Utf8Tabs 0 1 w') := fun w' h => tabs_keep hT h
    have HLN : Hid (L.length ≤ 3000) := hlen
    clear hT hlen
    have HC0 : Hid _ := HSP.out w
    go_enter Tryd.func3, Tryd.ntmps3
    go_upto_region 4 with (go_at_call 4; refine (Calls.mono HC0.out ?_); rintro e w1 ⟨v1, rfl, r1, b1⟩; obtain ⟨a1, c1, rfl, _, _⟩ := r1.shape; have R1 : Hid (SgRow w1 w.heap.size L (.slice a1 L.length c1)) := r1; have B1 : Hid (Below w.heap.size w w1) := b1; clear r1 b1)
    clear HC0
    have HC1 : Hid _ := HIM.out w1 (HT.out w1 B1.out)
    go_upto_region 5 with (go_at_call 5; refine (Calls.mono HC1.out ?_); rintro e w2 ⟨v2, rfl, r2, b2⟩; obtain ⟨a2, c2, rfl, _, _⟩ := r2.shape; have R2 : Hid (SgRow w2 w1.heap.size L (.slice a2 L.length c2)) := r2; have B2 : Hid (Below w1.heap.size w1 w2) := b2; clear r2 b2)
    clear HC1
    have HE : Hid _ := eq_signs L w2 _ _ _ _ R2.out (R1.out.keep B2.out) (by have := HLN.out; omega)
    have hbb : (bb != bb) = false := by simp
    go_upto_region 8 with (go_at_call 6; refine (Calls.mono HE.out ?_); rintro e w3 ⟨rfl, b3⟩; have B3 : Hid (Below w2.heap.size w2 w3) := b3; clear b3)
    clear HE
    have HM := mark_signs L w3 _ 1 _ (R2.out.keep B3.out) (by have := HLN.out; omega) (by omega) (by omega)
    have HHD : Hid (∀ w', SgRow w' w1.heap.size (marksS 1 L.length) (.slice a2 L.length c2) → Calls Tryd.prog 8 #[.slice a2 L.length c2, .int .i64 ((1 : Nat) : Int)] w' fun e w2 => e = .returned (.int .i64 ((1 + 5 * L.length : Nat) : Int)) ∧ Below w'.heap.size w' w2) := fun w' h => held_signs L.length w' _ 1 _ h (by have := HLN.out; omega) (by omega) (by omega)
    have hn3 : ¬ ((1 + 5 * L.length : Nat) : Int) < 0 := by omega
    generalize 1 + 5 * L.length = nx at HM HHD hn3
    replace HM : Hid _ := HM
    go_upto_region 10 with (go_at_call 7; refine (Calls.mono HM.out ?_); rintro e w4 ⟨rfl, r4, o4⟩; have R4 : Hid (SgRow w4 w1.heap.size (marksS 1 L.length) (.slice a2 L.length c2)) := r4; have O4 : Hid (OutV (.slice a2 L.length c2) w3 w4) := o4; clear r4 o4)
    clear HM
    have B13 : Hid (Below w1.heap.size w1 w3) := B2.out.trans (B3.out.mono B2.out.size)
    have B14 : Hid (Below w1.heap.size w1 w4) := by
      refine ⟨O4.out.os.trans B13.out.os, O4.out.tape.trans B13.out.tape, O4.out.output.trans B13.out.output, Nat.le_trans B13.out.size O4.out.size, fun k hk => ?_⟩
      rw [O4.out.block k (Nat.lt_of_lt_of_le hk B13.out.size) (fun e => by have := (own_ne R2.out e).1; omega)]
      exact B13.out.block k hk
    have HK : Hid _ := HHD.out w4 R4.out
    go_upto_region 15 with (go_at_call 8; refine (Calls.mono HK.out ?_); rintro e w5 ⟨rfl, b5⟩; have B5 : Hid (Below w4.heap.size w4 w5) := b5; clear b5)
    clear HK
    have B15 : Hid (Below w1.heap.size w1 w5) := B14.out.trans (B5.out.mono B14.out.size)
    have HC5 : Hid _ := HIM.out w5 (HT.out w5 (B1.out.trans (B15.out.mono B1.out.size)))
    go_upto_region 16 with (go_at_call 5; refine (Calls.mono HC5.out ?_); rintro e w6 ⟨v6, rfl, r6, b6⟩; obtain ⟨a6, c6, rfl, _, _⟩ := r6.shape; have R6 : Hid (SgRow w6 w5.heap.size L (.slice a6 L.length c6)) := r6; have B6 : Hid (Below w5.heap.size w5 w6) := b6; clear r6 b6)
    clear HC5
    have B16 : Hid (Below w1.heap.size w1 w6) := B15.out.trans (B6.out.mono B15.out.size)
    have HE : Hid _ := eq_signs L w6 _ _ _ _ R6.out (R1.out.keep B16.out) (by have := HLN.out; omega)
    go_upto_region 19 with (go_at_call 6; refine (Calls.mono HE.out ?_); rintro e w7 ⟨rfl, b7⟩; have B7 : Hid (Below w6.heap.size w6 w7) := b7; clear b7)
    clear HE
    have B47 : Hid (Below w4.heap.size w4 w7) := by
      have h1 := B5.out.trans (B6.out.mono B5.out.size)
      exact h1.trans (B7.out.mono h1.size)
    have B17 : Hid (Below w1.heap.size w1 w7) := B14.out.trans (B47.out.mono B14.out.size)
    have HK : Hid _ := HHD.out w7 (R4.out.keep B47.out)
    go_wp2_with (go_at_call 8; refine (Calls.mono HK.out ?_); rintro e w8 ⟨rfl, b8⟩; have B8 : Hid (Below w7.heap.size w7 w8) := b8; clear b8)
    go_ret
    refine ⟨rfl, ?_⟩
    have h1 := B17.out.trans (B8.out.mono B17.out.size)
    exact B1.out.trans (h1.mono B1.out.size)
  · go_enter Tryd.func3, Tryd.ntmps3
    go_wp2
    go_ret
    exact ⟨rfl, Below.refl _ _⟩

theorem own : ownKnob Tryd.prog.godebug = none := by kernel_rfl
theorem types8 : U8Types Tryd.prog sh_lays197_ren := { sh_lays197 with }
theorem extra8 : U8Extra Tryd.prog sh_lays197_ren := ⟨by kernel_rfl, by kernel_rfl, by kernel_rfl, by kernel_rfl, by kernel_rfl, by kernel_rfl, by kernel_rfl⟩
theorem firstIs : Rows.laid_unicode_utf8_first = Lib.firstData := by kernel_rfl
theorem acceptIs : Rows.laid_unicode_utf8_acceptRanges = Lib.acceptData := by kernel_rfl
theorem table {W : World} (h : laidMetH Tryd.prog Rows.fnExactSignsOfRow.laid W) : Lib.Utf8Tabs 0 1 W := by
  have h1 : laidMet Tryd.prog [("unicode/utf8.acceptRanges", Rows.laid_unicode_utf8_acceptRanges), ("unicode/utf8.first", Rows.laid_unicode_utf8_first)] W := h
  rw [firstIs, acceptIs] at h1
  exact utf8Tabs_of_readsT types8 extra8 (Lib.laidMet.reads h1 (by simp)) (Lib.laidMet.reads h1 (by simp))

/-- the cells that a table lays -/
def litCells : DataW Unit → Array Value
  | .agg parts => (parts.flatMap fun
    | .lit (.int k z) => [Value.int k z]
    | .agg qs => qs.map fun
      | .lit (.int k z) => Value.int k z
      | _ => Value.bool false
    | _ => [Value.bool false]).toArray
  | _ => #[]
def setTab (cs : Array Value) : Obj → Obj
  | .cells _ t frozen => .cells cs t frozen
  | o => o

theorem contract (H : Type) (enc : TypeId × Value → H) (W : World) (base : Nat) (args : Array Value) (ds gs : List (DataW H)) (before : List MemPlace)
    (hval : ∀ (j : Nat) t v, Tryd.f3.params[j]? = some t → args[j]? = some v → Value.okWide Tryd.prog W .any base t v)
    (hW : DataW.Whole enc Tryd.prog Tryd.f3.params.toList Rows.fnExactSignsOfSpec.vars false W args.toList ds gs before) (hL : laidMetH Tryd.prog Rows.fnExactSignsOfRow.laid W) :
    Calls Tryd.prog 3 args W fun e W' => ∃ v, e = .returned v ∧ Rows.fnExactSignsOfSpec.post enc Tryd.prog Tryd.f3 false true false false W args v W' := by
  have hW' := hW
  obtain ⟨p, q, hA0, hV, rfl, hfz, hnd⟩ := hW
  have hA : DataW.TrodAll enc Tryd.prog W 0 (fun _ => true) true Tryd.f3.params.toList args.toList ds p := hA0
  rw [Tryd.params3] at hA hval
  obtain ⟨v0, vs0, d0, ds0, p0, q0, hargs, rfl, rfl, h0, r0⟩ := trodAll_cons hA
  obtain ⟨rfl, rfl, rfl⟩ := trodAll_nil r0
  obtain rfl : args = #[v0] := by cases args; simp_all
  obtain ⟨rfl, rfl⟩ := trodVars_none hV
  obtain ⟨s0, rfl, rfl, rfl, m0⟩ := open_string Tryd.underlying9 (hval 0 9 v0 rfl rfl) h0
  clear hA0
  simp only [List.append_nil] at hW'
  refine (walk s0 m0 W (table hL)).mono fun e W' ⟨he, bel⟩ => ?_
  subst he
  exact ⟨_, rfl, _, _, _, [], _, [], hW', trodAll_mk1 (shut_bool Tryd.underlying4 _), (trodAll_cons_mk (shut_string Tryd.underlying9 m0) trodAll_mk0), rfl, bel.frame _, fun h => by cases h⟩

/-- a world for the witness: the settled one, the two tables holding what their initialisers lay -/
noncomputable def laidWorld (os : Os) : World :=
  { World.holding Tryd.prog os ⟨#[], #[], []⟩ with heap := ((World.holding Tryd.prog os ⟨#[], #[], []⟩).heap.modify 1 (setTab (litCells Rows.laid_unicode_utf8_acceptRanges))).modify 0 (setTab (litCells Rows.laid_unicode_utf8_first)) }
theorem laid_met (os : Os) : laidMet Tryd.prog Rows.fnExactSignsOfRow.laid ((laidWorld os).forCall (fun _ _ => 0) ⟨#[], #[.string ⟨#[]⟩], []⟩).memory :=
  laidMet_of_run' 8 (by kernel_rfl) (by kernel_rfl)
theorem reads (os : Os) {H : Type} (enc : TypeId × Value → H) : ∃ places, DataW.whole enc Tryd.prog ((laidWorld os).forCall (fun _ _ => 0) ⟨#[], #[.string ⟨#[]⟩], []⟩).memory Tryd.f3.params.toList Rows.fnExactSignsOfSpec.vars false #[Value.string ⟨#[]⟩].toList 8 = some ([.lit (.string [])], [], places) :=
  ⟨[], by kernel_rfl⟩

set_option maxRecDepth 100000 in
theorem lifted (os : Os) (started : os.Started) (H : Type) (enc : TypeId × Value → H) (F : Stop.Interp) :
    ReturnsInHanded {} Tryd.checked os 3 .any ((OpenSpec.ofChange Rows.fnExactSignsOfSpec).preRow enc Tryd.prog Tryd.f3 Rows.fnExactSignsOfRow.domain false Rows.fnExactSignsOfRow.laid) (((OpenSpec.ofChange Rows.fnExactSignsOfSpec).at F).post enc Tryd.prog Tryd.f3 false true false false) := by
  obtain ⟨places, hx⟩ := reads os enc
  refine returnsInHanded_of_row (C := Tryd.checked) (s := OpenSpec.ofChange Rows.fnExactSignsOfSpec) own started (by kernel_rfl) Tryd.func3
    (witness_row_at (enc := enc) (C := Tryd.checked) false (laidWorld os) #[.string ⟨#[]⟩] rfl (by kernel_rfl) (by kernel_rfl) (by kernel_rfl)
      (OpenSpec.preRow_of_cond 8 hx (by kernel_rfl) (fun k hk => by cases hk) (by kernel_rfl) (laid_met os))) ?_
  intro W base args ds gs before hval hW _ _ _ hL _ _
  exact contract H enc W base args ds gs before hval hW hL

theorem said : Rows.FnExactSignsOfSaid :=
  OpenClaim.holds_of_cond 3 Tryd.f3 rfl rfl rfl rfl rfl rfl rfl ⟨rfl, rfl, rfl, rfl, rfl⟩ rfl rfl rfl rfl rfl (by kernel_rfl) Tryd.func3 (by kernel_rfl)
    (of_decide_eq_true (by kernel_rfl)) (by unfold Func.isWrapper; first | (rw [if_pos (by decide +kernel)]; kernel_rfl) | (rw [if_neg (by decide +kernel)]; exact ⟨rfl, rfl⟩))
    (fun os started H enc _ F => by rw [OpenClaim.pre_eq_preRow]; exact lifted os started H enc F)

theorem plain (f : FuncId) (fn : Func) (hf : Tryd.pinned.checked.prog.funcNamed "loop.example/g00469/laws.FnExactSignsOf" = some f) (hfn : Tryd.pinned.checked.prog.funcs[f]? = some fn) :
    false = Tryd.pinned.checked.prog.looks [] ∧ ∀ (j : Nat) t, fn.params[j]? = some t → Tryd.pinned.checked.prog.wantsStandIn t = false := by
  obtain rfl : f = 3 := Option.some.inj ((show Tryd.prog.funcNamed "loop.example/g00469/laws.FnExactSignsOf" = some 3 by kernel_rfl).symm.trans hf) |>.symm
  obtain rfl : fn = Tryd.f3 := (Option.some.inj (Tryd.func3.symm.trans hfn)).symm
  refine ⟨by kernel_rfl, fun j t ht => ?_⟩
  rw [Tryd.params3] at ht
  obtain rfl : t = 9 := by simpa using Array.mem_of_getElem? ht
  exact (show Tryd.prog.wantsStandIn 9 = false by kernel_rfl)

theorem proved : Rows.FnExactSignsOfCardSaid :=
  Claim7.holds_tied_plain_at .later [] _ _ _ _ said (fun _ h => by cases h) (by kernel_rfl) (fun _ h => by cases h) fnExactSignsOf_row_tie rfl ⟨rfl, rfl⟩ (by kernel_rfl) rfl plain (by kernel_rfl)
#print axioms proved
end Go.Proofs.YtcmnjpoapcoghanDoor.fnExactSignsOf
