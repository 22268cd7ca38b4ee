/- FnExactReadAll answers true at every text: the code's ReadAll reads the terms that the specification's reads, and its answer owns its memory. No condition but what the row itself lays (the two tables of unicode/utf8). -/
import Derived.Test.YtbkjcccbjnehbanGreatDoorCards
import Derived.Test.YtbkjcccbjnehbanGreatDoorTie
import Derived.Test.YtbkjcccbjnehbanGreatDoorMj2
import Derived.Test.YtbkjcccbjnehbanGreatDoorUtf
import Derived.Lib.LaidU8T
import Derived.Carry
import Derived.ChangeOld
import Derived.ChangeMaps
import Derived.ShutString
import Derived.OpenShut
import Derived.Below
import Derived.Deep.DeepHandedRow
import Derived.Lib.LaidTab
import Derived.Stop.LaidErr
namespace Go.Proofs.YtbkjcccbjnehbanGreatDoor.fnExactReadAll
open Go.ChangeShapes Go.WideShapes Go.ChangeAt Go.RowKit
open Go.ChangeMaps (open_string shut_string)

set_option maxHeartbeats 4000000 in
set_option maxRecDepth 20000 in
theorem walk (s : ByteArray) (m : s.size ≤ maxLen) (w : World) (hT : Lib.Utf8Tabs 0 1 w) :
    Calls Tryz.prog 4 #[.string s] w fun e w' => e = .returned (.bool true) ∧ Below w.heap.size w w' := by
  unfold maxLen at m
  by_cases hs : s.size ≤ 1048576
  · have HSP : Hid (∀ w, Calls Tryz.prog 13 #[.string s] w (RaOut (raR s) w)) := s_readAll s
    have HIM : Hid (∀ w, Lib.Utf8Tabs 0 1 w → Calls Tryz.prog 14 #[.string s] w (RaOut (raR s) w)) := fun w h => i_readAll s w h
    have hlen := raR_n s
    obtain ⟨⟨ks, cnt⟩, hR⟩ : ∃ R, R = raR s := ⟨_, rfl⟩
    rw [← hR] at HSP HIM hlen
    simp only at hlen
    obtain ⟨KN, hKN⟩ : ∃ KN, KN = ks.length := ⟨_, rfl⟩
    have HKN : Hid (ks.length = KN) := hKN.symm
    have HT : Hid (∀ w', Below w.heap.size w w' → Lib.Utf8Tabs 0 1 w') := fun w' h => tabs_keep hT h
    have HLN : Hid (ks.length ≤ 3000 ∧ ns ks ≤ 1200000) := hlen
    clear hT hlen hR hKN
    have HC0 : Hid _ := HSP.out w
    go_enter Tryz.func4, Tryz.ntmps4
    go_upto_region 4 with (go_at_call 13; refine (Calls.mono HC0.out ?_); rintro e w1 ⟨v1, F1, rfl, r1, b1⟩; obtain ⟨a1, c1, rfl⟩ := r1.slice; have R1 : Hid (RowIn w1 ks a1 c1) := r1.own.rowIn; have B1 : Hid (Below w.heap.size w w1) := b1; simp only [HKN.out]; clear r1 b1)
    clear HC0
    have HC1 : Hid _ := HIM.out w1 (HT.out w1 B1.out)
    go_upto_region 5 with (go_at_call 14; refine (Calls.mono HC1.out ?_); rintro e w2 ⟨v2, F2, rfl, r2, b2⟩; obtain ⟨a2, c2, rfl⟩ := r2.slice; have R2 : Hid (ROk 24 (fun _ => False) w1.heap.size w2 ks (.slice a2 ks.length c2) F2) := r2; have B2 : Hid (Below w1.heap.size w1 w2) := b2; simp only [HKN.out]; clear r2 b2)
    clear HC1
    have he := eq_terms ks (fun t _ => eq_term t) w2 a2 a1 c2 c1 (by have := HLN.out.1; unfold maxLen; omega) R2.out.own.rowIn.2.2 (R1.out.keep B2.out).2.2
    rw [HKN.out] at he
    have HE : Hid _ := he
    clear he
    have hbb : ((cnt : Int) != (cnt : Int)) = false := by simp
    go_upto_region 8 with (go_at_call 15; refine (Calls.mono HE.out ?_); rintro e w3 ⟨rfl, b3⟩; have B3 : Hid (Below w2.heap.size w2 w3) := b3; clear b3)
    clear HE
    have hm := mark_all ks w3 _ F2 1 (R2.out.own.keep fun f hf => B3.out.block f (R2.out.lt f hf)) R2.out.nd (by omega) (by have := HLN.out.2; omega)
    have hhd : ∀ w', OwnS 24 w' (markL ks 1) (.slice a2 ks.length c2) F2 → Calls Tryz.prog 17 #[.slice a2 ks.length c2, .int .i64 ((1 : Nat) : Int)] w' fun e w2 => e = .returned (.int .i64 ((1 + 3 * ns ks : Nat) : Int)) ∧ Below w'.heap.size w' w2 := fun w' h => by
      have hri := h.rowIn
      exact held_all ks w' a2 c2 1 (by omega) (by have := HLN.out.2; omega) (by have := hri.1; rw [markL_len] at this; exact this) hri.2.1 (fun h0 => hri.2.2 (by intro e; apply h0; rw [← List.length_eq_zero_iff, ← markL_len ks 1, e]; rfl))
    have hn3 : ¬ ((1 + 3 * ns ks : Nat) : Int) < 0 := by omega
    rw [HKN.out] at hm hhd
    generalize 1 + 3 * ns ks = nx at hm hhd hn3
    have HM : Hid _ := hm
    have HHD : Hid _ := hhd
    clear hm hhd
    go_upto_region 10 with (go_at_call 16; refine (Calls.mono HM.out ?_); rintro e w4 ⟨rfl, r4, o4⟩; have R4 : Hid (OwnS 24 w4 (markL ks 1) (.slice a2 KN c2) F2) := r4; have O4 : Hid (Out F2 w3 w4) := o4; clear r4 o4)
    clear HM
    have B13 : Hid (Below w1.heap.size w1 w3) := B2.out.trans (B3.out.mono B2.out.size)
    have B14 : Hid (Below w1.heap.size w1 w4) := B13.out.trans (O4.out.below (fun f hf => (R2.out.out f hf).1) B13.out.size)
    have HK : Hid _ := HHD.out w4 R4.out
    go_upto_region 15 with (go_at_call 17; refine (Calls.mono HK.out ?_); rintro e w5 ⟨rfl, b5⟩; have B5 : Hid (Below w4.heap.size w4 w5) := b5; clear b5)
    clear HK
    have B15 : Hid (Below w1.heap.size w1 w5) := B14.out.trans (B5.out.mono B14.out.size)
    have HC5 : Hid _ := HIM.out w5 (HT.out w5 (B1.out.trans (B15.out.mono B1.out.size)))
    go_upto_region 16 with (go_at_call 14; refine (Calls.mono HC5.out ?_); rintro e w6 ⟨v6, F6, rfl, r6, b6⟩; obtain ⟨a6, c6, rfl⟩ := r6.slice; have R6 : Hid (RowIn w6 ks a6 c6) := r6.own.rowIn; have B6 : Hid (Below w5.heap.size w5 w6) := b6; simp only [HKN.out]; clear r6 b6)
    clear HC5
    have B16 : Hid (Below w1.heap.size w1 w6) := B15.out.trans (B6.out.mono B15.out.size)
    have he := eq_terms ks (fun t _ => eq_term t) w6 a6 a1 c6 c1 (by have := HLN.out.1; unfold maxLen; omega) R6.out.2.2 (R1.out.keep B16.out).2.2
    rw [HKN.out] at he
    have HE : Hid _ := he
    clear he
    go_upto_region 19 with (go_at_call 15; refine (Calls.mono HE.out ?_); rintro e w7 ⟨rfl, b7⟩; have B7 : Hid (Below w6.heap.size w6 w7) := b7; clear b7)
    clear HE
    have B47 : Hid (Below w4.heap.size w4 w7) := by
      have h1 := B5.out.trans (B6.out.mono B5.out.size)
      exact h1.trans (B7.out.mono h1.size)
    have B17 : Hid (Below w1.heap.size w1 w7) := B14.out.trans (B47.out.mono B14.out.size)
    have HK : Hid _ := HHD.out w7 (R4.out.keep fun f hf => B47.out.block f (OwnS.lt R4.out f hf))
    go_wp2_with (go_at_call 17; refine (Calls.mono HK.out ?_); rintro e w8 ⟨rfl, b8⟩; have B8 : Hid (Below w7.heap.size w7 w8) := b8; clear b8)
    go_ret
    refine ⟨rfl, ?_⟩
    have h1 := B17.out.trans (B8.out.mono B17.out.size)
    exact B1.out.trans (h1.mono B1.out.size)
  · go_enter Tryz.func4, Tryz.ntmps4
    go_wp2
    go_ret
    exact ⟨rfl, Below.refl _ _⟩

theorem own : ownKnob Tryz.prog.godebug = none := by kernel_rfl
theorem types8 : U8Types Tryz.prog sh_lays197_ren := { sh_lays197 with }
theorem extra8 : U8Extra Tryz.prog sh_lays197_ren := ⟨by kernel_rfl, by kernel_rfl, by kernel_rfl, by kernel_rfl, by kernel_rfl, by kernel_rfl, by kernel_rfl⟩
theorem firstIs : Rows.laid_unicode_utf8_first = Lib.firstData := by kernel_rfl
theorem acceptIs : Rows.laid_unicode_utf8_acceptRanges = Lib.acceptData := by kernel_rfl
theorem table {W : World} (h : laidMetH Tryz.prog Rows.fnExactReadAllRow.laid W) : Lib.Utf8Tabs 0 1 W := by
  have h1 : laidMet Tryz.prog [("unicode/utf8.acceptRanges", Rows.laid_unicode_utf8_acceptRanges), ("unicode/utf8.first", Rows.laid_unicode_utf8_first)] W := h
  rw [firstIs, acceptIs] at h1
  exact utf8Tabs_of_readsT types8 extra8 (Lib.laidMet.reads h1 (by simp)) (Lib.laidMet.reads h1 (by simp))

/-- the cells that a table lays -/
def litCells : DataW Unit → Array Value
  | .agg parts => (parts.flatMap fun
    | .lit (.int k z) => [Value.int k z]
    | .agg qs => qs.map fun
      | .lit (.int k z) => Value.int k z
      | _ => Value.bool false
    | _ => [Value.bool false]).toArray
  | _ => #[]
def setTab (cs : Array Value) : Obj → Obj
  | .cells _ t frozen => .cells cs t frozen
  | o => o

set_option maxRecDepth 20000 in
theorem contract (H : Type) (enc : TypeId × Value → H) (W : World) (base : Nat) (args : Array Value) (ds gs : List (DataW H)) (before : List MemPlace)
    (hval : ∀ (j : Nat) t v, Tryz.f4.params[j]? = some t → args[j]? = some v → Value.okWide Tryz.prog W .any base t v)
    (hW : DataW.Whole enc Tryz.prog Tryz.f4.params.toList Rows.fnExactReadAllSpec.vars false W args.toList ds gs before) (hL : laidMetH Tryz.prog Rows.fnExactReadAllRow.laid W) :
    Calls Tryz.prog 4 args W fun e W' => ∃ v, e = .returned v ∧ Rows.fnExactReadAllSpec.post enc Tryz.prog Tryz.f4 false true false false W args v W' := by
  have hW' := hW
  obtain ⟨p, q, hA0, hV, rfl, hfz, hnd⟩ := hW
  have hA : DataW.TrodAll enc Tryz.prog W 0 (fun _ => true) true Tryz.f4.params.toList args.toList ds p := hA0
  rw [Tryz.params4] at hA hval
  obtain ⟨v0, vs0, d0, ds0, p0, q0, hargs, rfl, rfl, h0, r0⟩ := trodAll_cons hA
  obtain ⟨rfl, rfl, rfl⟩ := trodAll_nil r0
  obtain rfl : args = #[v0] := by cases args; simp_all
  obtain ⟨rfl, rfl⟩ := trodVars_none hV
  obtain ⟨s0, rfl, rfl, rfl, m0⟩ := open_string Tryz.underlying9 (hval 0 9 v0 rfl rfl) h0
  clear hA0
  simp only [List.append_nil] at hW'
  refine (walk s0 m0 W (table hL)).mono fun e W' ⟨he, bel⟩ => ?_
  subst he
  exact ⟨_, rfl, _, _, _, [], _, [], hW', trodAll_mk1 (shut_bool Tryz.underlying4 _), (trodAll_cons_mk (shut_string Tryz.underlying9 m0) trodAll_mk0), rfl, bel.frame _, fun h => by cases h⟩

/-- a world for the witness: the settled one, the two tables holding what their initialisers lay -/
noncomputable def laidWorld (os : Os) : World :=
  { World.holding Tryz.prog os ⟨#[], #[], []⟩ with heap := ((World.holding Tryz.prog os ⟨#[], #[], []⟩).heap.modify 1 (setTab (litCells Rows.laid_unicode_utf8_acceptRanges))).modify 0 (setTab (litCells Rows.laid_unicode_utf8_first)) }
set_option maxRecDepth 20000 in
theorem laid_met (os : Os) : laidMet Tryz.prog Rows.fnExactReadAllRow.laid ((laidWorld os).forCall (fun _ _ => 0) ⟨#[], #[.string ⟨#[]⟩], []⟩).memory :=
  laidMet_of_run' 8 (by kernel_rfl) (by kernel_rfl)
set_option maxRecDepth 20000 in
theorem reads (os : Os) {H : Type} (enc : TypeId × Value → H) : ∃ places, DataW.whole enc Tryz.prog ((laidWorld os).forCall (fun _ _ => 0) ⟨#[], #[.string ⟨#[]⟩], []⟩).memory Tryz.f4.params.toList Rows.fnExactReadAllSpec.vars false #[Value.string ⟨#[]⟩].toList 8 = some ([.lit (.string [])], [], places) :=
  ⟨[], by kernel_rfl⟩

set_option maxRecDepth 100000 in
theorem lifted (os : Os) (started : os.Started) (H : Type) (enc : TypeId × Value → H) (F : Stop.Interp) :
    ReturnsInHanded {} Tryz.checked os 4 .any ((OpenSpec.ofChange Rows.fnExactReadAllSpec).preRow enc Tryz.prog Tryz.f4 Rows.fnExactReadAllRow.domain false Rows.fnExactReadAllRow.laid) (((OpenSpec.ofChange Rows.fnExactReadAllSpec).at F).post enc Tryz.prog Tryz.f4 false true false false) := by
  obtain ⟨places, hx⟩ := reads os enc
  refine returnsInHanded_of_row (C := Tryz.checked) (s := OpenSpec.ofChange Rows.fnExactReadAllSpec) own started (by kernel_rfl) Tryz.func4
    (witness_row_at (enc := enc) (C := Tryz.checked) false (laidWorld os) #[.string ⟨#[]⟩] rfl (by kernel_rfl) (by kernel_rfl) (by kernel_rfl)
      (OpenSpec.preRow_of_cond 8 hx (by kernel_rfl) (fun k hk => by cases hk) (by kernel_rfl) (laid_met os))) ?_
  intro W base args ds gs before hval hW _ _ _ hL _ _
  exact contract H enc W base args ds gs before hval hW hL

theorem said : Rows.FnExactReadAllSaid :=
  OpenClaim.holds_of_cond 4 Tryz.f4 rfl rfl rfl rfl rfl rfl rfl ⟨rfl, rfl, rfl, rfl, rfl⟩ rfl rfl rfl rfl rfl (by kernel_rfl) Tryz.func4 (by kernel_rfl)
    (of_decide_eq_true (by kernel_rfl)) (by unfold Func.isWrapper; first | (rw [if_pos (by decide +kernel)]; kernel_rfl) | (rw [if_neg (by decide +kernel)]; exact ⟨rfl, rfl⟩))
    (fun os started H enc _ F => by rw [OpenClaim.pre_eq_preRow]; exact lifted os started H enc F)

theorem plain (f : FuncId) (fn : Func) (hf : Tryz.pinned.checked.prog.funcNamed "loop.example/g00469/laws.FnExactReadAll" = some f) (hfn : Tryz.pinned.checked.prog.funcs[f]? = some fn) :
    true = Tryz.pinned.checked.prog.looks [] ∧ ∀ (j : Nat) t, fn.params[j]? = some t → Tryz.pinned.checked.prog.wantsStandIn t = false := by
  obtain rfl : f = 4 := Option.some.inj ((show Tryz.prog.funcNamed "loop.example/g00469/laws.FnExactReadAll" = some 4 by kernel_rfl).symm.trans hf) |>.symm
  obtain rfl : fn = Tryz.f4 := (Option.some.inj (Tryz.func4.symm.trans hfn)).symm
  refine ⟨by kernel_rfl, fun j t ht => ?_⟩
  rw [Tryz.params4] at ht
  obtain rfl : t = 9 := by simpa using Array.mem_of_getElem? ht
  exact (show Tryz.prog.wantsStandIn 9 = false by kernel_rfl)

theorem proved : Rows.FnExactReadAllCardSaid :=
  Claim7.holds_tied_plain_at .later [] _ _ _ _ said (fun _ h => by cases h) (by kernel_rfl) (fun _ h => by cases h) fnExactReadAll_row_tie rfl ⟨rfl, rfl⟩ (by kernel_rfl) rfl plain (by kernel_rfl)
#print axioms proved
end Go.Proofs.YtbkjcccbjnehbanGreatDoor.fnExactReadAll
