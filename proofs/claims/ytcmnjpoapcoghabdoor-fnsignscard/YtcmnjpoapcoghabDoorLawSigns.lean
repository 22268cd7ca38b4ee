/- FnSigns answers true at every code: signs stand where they stand, in order; remarks and blanks are none. No condition but what the row itself lays (the two tables of unicode/utf8). -/
import Derived.Test.YtcmnjpoapcoghabDoorCards
import Derived.Test.YtcmnjpoapcoghabDoorTie
import Derived.Test.YtcmnjpoapcoghabDoorSgQ0
import Derived.Test.YtcmnjpoapcoghabDoorSgV
import Derived.Test.YtcmnjpoapcoghabDoorSgG
import Derived.Test.YtcmnjpoapcoghabDoorSgDr
import Derived.Test.YtcmnjpoapcoghabDoorCodeRow
import Derived.Test.YtcmnjpoapcoghabDoorUtf
import Derived.BigQuiet
import Derived.Lib.LaidU8T
import Derived.Carry
import Derived.ChangeOld
import Derived.OpenShut
import Derived.Below
import Derived.Deep.DeepHandedRow
import Derived.Lib.LaidTab
import Derived.Stop.LaidErr
namespace Go.Proofs.YtcmnjpoapcoghabDoor.fnSigns
open Go.ChangeShapes Go.WideShapes Go.ChangeAt Go.RowKit

theorem asc_all (t : ByteArray) (L : List Sg) (h : L = (signsR t).1) : (∀ (j : Nat) (hj : j < L.length), L[j].at_ < t.size) ∧ ∀ (j : Nat) (hj : j + 1 < L.length), L[j].at_ < L[j + 1].at_ := by
  subst h
  unfold signsR
  split
  · exact sgs_asc t
  · exact ⟨fun j hj => by simp at hj, fun j hj => by simp at hj⟩
theorem more_len (t T : ByteArray) (hT : T.data.toList = [37, 32, 115, 97, 105, 100, 10] ++ t.data.toList) (h : (t.size : Int) ≤ 2900) : (signsR T).1.length = (signsR t).1.length := by
  have hsz := sh_size (p := 7) hT rfl
  unfold signsR
  rw [if_pos (by omega), if_pos (by omega)]
  exact said_len t T hT

set_option maxHeartbeats 4000000 in
set_option maxRecDepth 20000 in
theorem walk (v : Value) (n : Nat) (w : World) (hv : CodeIn w.heap.size w v n) (hT : Lib.Utf8Tabs 1 2 w) :
    Calls Tryd.prog 3 #[v] w fun e w' => e = .returned (.bool true) ∧ Below w.heap.size w w' := by
  have HT : Hid (∀ w', Below w.heap.size w w' → Lib.Utf8Tabs 1 2 w') := fun w' h => tabs_keep hT h
  have HK : Hid (∀ w', Below w.heap.size w w' → CodeIn w.heap.size w' v n) := fun w' hb => hv.below hb (Nat.le_refl _)
  obtain ⟨ao, cap, rfl, hn, hrest⟩ := hv
  clear hT hrest
  go_enter Tryd.func3, Tryd.ntmps3
  go_upto_region 4 with (first
    | (go_at_call 4; refine (big_no _ _ _ hn _).mono ?_; rintro e w0 ⟨rfl, hw0⟩; subst hw0)
    | (go_at_call 5; refine (draw_signs _ _ _ n (HK.out _ (Below.refl _ _)) (Nat.le_refl _)).mono ?_; rintro e w1 ⟨⟨t, ht, rfl⟩, hb⟩; have B1 : Hid (Below w0.heap.size w0 w1) := hb; clear hb))
  obtain ⟨T, hTT⟩ : ∃ T : ByteArray, T = (⟨#[37, 32, 115, 97, 105, 100, 10]⟩ : ByteArray) ++ t := ⟨_, rfl⟩
  have hTL : T.data.toList = [37, 32, 115, 97, 105, 100, 10] ++ t.data.toList := by rw [hTT]; simp
  have hcat := fun u => run_string_add (P := Tryd.prog) (w := u) ⟨#[37, 32, 115, 97, 105, 100, 10]⟩ t (by decide) (by omega)
  rw [← hTT] at hcat
  have HML : Hid ((t.size : Int) ≤ 2900 → (signsR T).1.length = (signsR t).1.length) := more_len t T hTL
  have HSP : Hid (∀ w, Calls Tryd.prog 7 #[.string t] w fun e w' => ∃ v, e = .returned (.tuple #[v, .bool (signsR t).2]) ∧ SgRow w' w.heap.size (signsR t).1 v ∧ Below w.heap.size w w') := spec_all t
  have HIM : Hid (∀ w, Lib.Utf8Tabs 1 2 w → Calls Tryd.prog 6 #[.string t] w fun e w' => ∃ v, e = .returned (.tuple #[v, .bool (signsR t).2]) ∧ SgRow w' w.heap.size (signsR t).1 v ∧ Below w.heap.size w w') := fun w h => impl_all t w h
  have HIT : Hid (∀ w, Lib.Utf8Tabs 1 2 w → Calls Tryd.prog 6 #[.string T] w fun e w' => ∃ v, e = .returned (.tuple #[v, .bool (signsR T).2]) ∧ SgRow w' w.heap.size (signsR T).1 v ∧ Below w.heap.size w w') := fun w h => impl_all T w h
  have hlen := signsR_len t
  have hlenT := signsR_len T
  have HCAT : Hid _ := hcat
  clear hTT hTL hcat
  obtain ⟨L, hL⟩ : ∃ L, L = (signsR t).1 := ⟨_, rfl⟩
  have HASC : Hid _ := asc_all t L hL
  rw [← hL] at HSP HIM HML hlen
  generalize (signsR T).1 = LT at *
  generalize (signsR t).2 = bb at *
  generalize (signsR T).2 = bT at *
  obtain ⟨NL, hNL⟩ : ∃ NL, NL = L.length := ⟨_, rfl⟩
  obtain ⟨NT, hNT⟩ : ∃ NT, NT = LT.length := ⟨_, rfl⟩
  have HNL : Hid (L.length = NL) := hNL.symm
  have HNT : Hid (LT.length = NT) := hNT.symm
  rw [← hNL] at hlen HML
  rw [← hNT] at HML
  clear hL hNL hNT hlenT
  have HC1 : Hid _ := HIM.out w1 (HT.out w1 B1.out)
  go_upto_region 5 with (go_at_call 6; refine (Calls.mono HC1.out ?_); rintro e w2 ⟨v2, rfl, r2, b2⟩; obtain ⟨a2, c2, rfl, hc2, hl2⟩ := r2.shape; rw [HNL.out] at hl2 r2 ⊢; have R2 : Hid (SgRow w2 w1.heap.size L (.slice a2 NL c2)) := r2; have B2 : Hid (Below w1.heap.size w1 w2) := b2; clear r2 b2)
  clear HC1
  have HC2 : Hid _ := HSP.out w2
  go_upto_region 6 with (go_at_call 7; refine (Calls.mono HC2.out ?_); rintro e w3 ⟨v3, rfl, r3, b3⟩; obtain ⟨a3, c3, rfl, hc3, hl3⟩ := r3.shape; rw [HNL.out] at hl3 r3 ⊢; have R3 : Hid (SgRow w3 w2.heap.size L (.slice a3 NL c3)) := r3; have B3 : Hid (Below w2.heap.size w2 w3) := b3; clear r3 b3)
  clear HC2 HSP HIM
  have hbb : (bb != bb) = false := by simp
  have B13 : Hid (Below w1.heap.size w1 w3) := B2.out.trans (B3.out.mono B2.out.size)
  have B03 : Hid (Below w0.heap.size w0 w3) := B1.out.trans (B13.out.mono B1.out.size)
  have R23 : Hid (SgRow w3 w1.heap.size L (.slice a2 NL c2)) := R2.out.keep B3.out
  clear R2 B2 B3 B13
  unfold maxLen at hc2 hc3
  go_wp2
  go_loopw [8] (fun vi wr => ∃ j : Nat, j ≤ NL ∧ vi = .int .i64 (j : Int) ∧ Hid (Below w3.heap.size w3 wr)) (fun vi _ => NL - (intOf vi).toNat)
  case atStart => exact ⟨0, Nat.zero_le _, rfl, Below.refl _ _⟩
  case round =>
    obtain ⟨j, hj, rfl, HB⟩ := hrel
    by_cases hlt : j < NL
    · have hjL : j < L.length := by have := HNL.out; omega
      obtain ⟨g2, cc2, e2, _, _, _, _, _⟩ := R23.out.cells (by intro e; rw [e] at hjL; simp at hjL)
      obtain ⟨g3, cc3, e3, _, _, _, _, _⟩ := R3.out.cells (by intro e; rw [e] at hjL; simp at hjL)
      obtain rfl : a2 = some ⟨g2, 0, none⟩ := by simp only [Value.slice.injEq] at e2; exact e2.1
      obtain rfl : a3 = some ⟨g3, 0, none⟩ := by simp only [Value.slice.injEq] at e3; exact e3.1
      clear e2 e3
      obtain ⟨q0, q1, q2, q3, q4, _⟩ := (R23.out.keep HB.out).at (j := j) HNL.out hlt
      obtain ⟨r0, r1, r2, r3, r4, _⟩ := (R3.out.keep HB.out).at (j := j) HNL.out hlt
      have hat := HASC.out.1 j hjL
      by_cases hj0 : j = 0
      · subst hj0
        obtain ⟨s, hs⟩ : ∃ s, s = L[0]'hjL := ⟨_, rfl⟩
        rw [← hs] at q0 q1 q2 q3 q4 r0 r1 r2 r3 r4 hat
        obtain ⟨k, x, nn, a, b⟩ := s
        simp only at hat
        have d1 : decide ((t.size : Int) ≤ (a : Int)) = false := decide_eq_false (by omega)
        have d1' : decide (t.size ≤ a) = false := decide_eq_false (by omega)
        clear hs
        go_upto_region 11 with fail
        go_quiet (fail)
        go_wp2
        exact ⟨⟨1, by omega, rfl, HB.out.trans ⟨rfl, rfl, rfl, Nat.le_refl _, fun _ _ => rfl⟩⟩, by simp [intOf]; omega⟩
      · obtain ⟨jm, hjm⟩ : ∃ jm, jm + 1 = j := ⟨j - 1, by omega⟩
        have hjm1 : jm < L.length := by omega
        have hm : (L[jm]'hjm1).at_ < (L[j]'hjL).at_ := by subst hjm; exact HASC.out.2 jm hjL
        obtain ⟨p0, p1, p2, p3, p4, _⟩ := (R23.out.keep HB.out).at (j := jm) HNL.out (by omega)
        obtain ⟨s, hs⟩ : ∃ s, s = L[j]'hjL := ⟨_, rfl⟩
        obtain ⟨s', hs'⟩ : ∃ s', s' = L[jm]'hjm1 := ⟨_, rfl⟩
        rw [← hs] at q0 q1 q2 q3 q4 r0 r1 r2 r3 r4 hat
        rw [← hs'] at p0 p1 p2 p3 p4
        rw [← hs, ← hs'] at hm
        obtain ⟨k, x, nn, a, b⟩ := s
        obtain ⟨k', x', nn', a', b'⟩ := s'
        simp only at hm hat
        have d1 : decide ((t.size : Int) ≤ (a : Int)) = false := decide_eq_false (by omega)
        have d2 : decide ((a : Int) ≤ (a' : Int)) = false := decide_eq_false (by omega)
        have d3 : decide ((0 : Int) < (j : Int)) = true := decide_eq_true (by omega)
        have d1' : decide (t.size ≤ a) = false := decide_eq_false (by omega)
        have d2' : decide (a ≤ a') = false := decide_eq_false (by omega)
        have d3' : decide (0 < j) = true := decide_eq_true (by omega)
        have d3z : (0 : Int) < (j : Int) := by omega
        have hsub : (j : Int) - 1 = (jm : Int) := by omega
        have hjmN : jm < NL := by omega
        clear hs hs' hj0 hjm hjm1
        go_upto_region 11 with fail
        go_quiet (fail)
        go_wp2
        exact ⟨⟨j + 1, by omega, by go_num, HB.out.trans ⟨rfl, rfl, rfl, Nat.le_refl _, fun _ _ => rfl⟩⟩, by simp [intOf]; omega⟩
    · obtain rfl : j = NL := by omega
      have B04 : Hid (Below w0.heap.size w0 wr) := B03.out.trans (HB.out.mono B03.out.size)
      clear R23 R3 HB B03 HASC
      have hcat := HCAT.out wr
      have HC5 : Hid _ := HIT.out wr (HT.out wr B04.out)
      go_upto_region 14 with (go_at_call 6; refine (Calls.mono HC5.out ?_); rintro e w5 ⟨v5, rfl, r5, b5⟩; obtain ⟨a5, c5, rfl, _, _⟩ := r5.shape; rw [HNT.out]; have B5 : Hid (Below w0.heap.size w0 w5) := B04.out.trans (b5.mono B04.out.size); clear r5 b5)
      clear HC5 hcat
      have HC6 : Hid _ := draw_byte _ w5 _ n (HK.out w5 B5.out) B5.out.size
      go_upto_region 15 with (go_at_call 8; refine (Calls.mono HC6.out ?_); rintro e w6 ⟨⟨c, rfl⟩, b6⟩; have B6 : Hid (Below w0.heap.size w0 w6) := B5.out.trans (b6.mono B5.out.size); clear b6)
      have HSY := spec_sym c
      have HI0 := impl_sym c
      generalize isSym c = sy at HSY HI0
      have HI1 : Hid (∀ w, Calls Tryd.prog 9 #[.int .u8 43] w fun e w' => e = .returned (.bool true) ∧ w' = w) := fun w => impl_sym 43 w
      have HI2 : Hid (∀ w, Calls Tryd.prog 9 #[.int .u8 97] w fun e w' => e = .returned (.bool false) ∧ w' = w) := fun w => impl_sym 97 w
      have HIC : Hid (∀ w, Calls Tryd.prog 9 #[.int .u8 (c.toNat : Int)] w fun e w' => e = .returned (.bool sy) ∧ w' = w) := HI0
      have HSC : Hid (∀ w, Calls Tryd.prog 10 #[.int .u8 (c.toNat : Int)] w fun e w' => e = .returned (.bool sy) ∧ w' = w) := HSY
      clear HI0 HSY
      have hsy : (sy == sy) = true := by simp
      by_cases hbig : (t.size : Int) ≤ 2900
      · have hNT : NT = j := HML.out hbig
        subst hNT
        have d1 : decide ((2900 : Int) < (t.size : Int)) = false := decide_eq_false (by omega)
        go_wp2_with (first
          | (go_at_call 10; refine (HSC.out _).mono ?_; rintro e w7 ⟨rfl, rfl⟩)
          | (go_at_call 9; first | (refine (HIC.out _).mono ?_; rintro e w7 ⟨rfl, rfl⟩) | (refine (HI1.out _).mono ?_; rintro e w7 ⟨rfl, rfl⟩) | (refine (HI2.out _).mono ?_; rintro e w7 ⟨rfl, rfl⟩)))
        go_ret
        exact ⟨rfl, B6.out⟩
      · have d1 : decide ((2900 : Int) < (t.size : Int)) = true := decide_eq_true (by omega)
        go_wp2_with (first
          | (go_at_call 10; refine (HSC.out _).mono ?_; rintro e w7 ⟨rfl, rfl⟩)
          | (go_at_call 9; first | (refine (HIC.out _).mono ?_; rintro e w7 ⟨rfl, rfl⟩) | (refine (HI1.out _).mono ?_; rintro e w7 ⟨rfl, rfl⟩) | (refine (HI2.out _).mono ?_; rintro e w7 ⟨rfl, rfl⟩)))
        go_ret
        exact ⟨rfl, B6.out⟩
theorem ownK : ownKnob Tryd.prog.godebug = none := by kernel_rfl
theorem types8 : U8Types Tryd.prog sh_lays197_ren := { sh_lays197 with }
theorem extra8 : U8Extra Tryd.prog sh_lays197_ren := ⟨by kernel_rfl, by kernel_rfl, by kernel_rfl, by kernel_rfl, by kernel_rfl, by kernel_rfl, by kernel_rfl⟩
theorem firstIs : Rows.laid_unicode_utf8_first = Lib.firstData := by kernel_rfl
theorem acceptIs : Rows.laid_unicode_utf8_acceptRanges = Lib.acceptData := by kernel_rfl
theorem table {W : World} (h : laidMetH Tryd.prog Rows.fnSignsRow.laid W) : Lib.Utf8Tabs 1 2 W := by
  have h1 : laidMet Tryd.prog [("unicode/utf8.acceptRanges", Rows.laid_unicode_utf8_acceptRanges), ("unicode/utf8.first", Rows.laid_unicode_utf8_first)] W := h
  rw [firstIs, acceptIs] at h1
  exact utf8Tabs_of_readsT types8 extra8 (Lib.laidMet.reads h1 (by simp)) (Lib.laidMet.reads h1 (by simp))

/-- the cells that a table lays -/
def litCells : DataW Unit → Array Value
  | .agg parts => (parts.flatMap fun
    | .lit (.int k z) => [Value.int k z]
    | .agg qs => qs.map fun
      | .lit (.int k z) => Value.int k z
      | _ => Value.bool false
    | _ => [Value.bool false]).toArray
  | _ => #[]
def setTab (cs : Array Value) : Obj → Obj
  | .cells _ t frozen => .cells cs t frozen
  | o => o

theorem walk_big (ao : Option Addr) (n cap : Nat) (h : 1048576 < n) (hm : n ≤ maxLen) (w : World) :
    Calls Tryd.prog 3 #[.slice ao n cap] w fun e w' => e = .returned (.bool true) ∧ Below w.heap.size w w' := by
  go_enter Tryd.func3, Tryd.ntmps3
  go_wp2_with (go_at_call 4; refine (big_yes _ _ _ h hm _).mono ?_; rintro e w0 ⟨rfl, rfl⟩)
  go_ret
  exact ⟨rfl, Below.refl _ _⟩

/-- a world for the witness: the settled one, the two tables holding what their initialisers lay -/
noncomputable def laidWorld (os : Os) : World :=
  { World.holding Tryd.prog os ⟨#[], #[], []⟩ with heap := ((World.holding Tryd.prog os ⟨#[], #[], []⟩).heap.modify 2 (setTab (litCells Rows.laid_unicode_utf8_acceptRanges))).modify 1 (setTab (litCells Rows.laid_unicode_utf8_first)) }
theorem contract (H : Type) (enc : TypeId × Value → H) (W : World) (base : Nat) (args : Array Value) (ds gs : List (DataW H)) (before : List MemPlace)
    (hval : ∀ (j : Nat) t v, Tryd.f3.params[j]? = some t → args[j]? = some v → Value.okWide Tryd.prog W .any base t v)
    (hW : DataW.Whole enc Tryd.prog Tryd.f3.params.toList Rows.fnSignsSpec.vars false W args.toList ds gs before) (hL : laidMetH Tryd.prog Rows.fnSignsRow.laid W) :
    Calls Tryd.prog 3 args W fun e W' => ∃ v, e = .returned v ∧ Rows.fnSignsSpec.post enc Tryd.prog Tryd.f3 false true false false W args v W' := by
  have ht := table hL
  have hW' := hW
  have hlt := hW.lt
  obtain ⟨p, q, hA0, hV, rfl, hfz, hnd⟩ := hW
  have hA : DataW.TrodAll enc Tryd.prog W 0 (fun _ => true) true Tryd.f3.params.toList args.toList ds p := hA0
  rw [Tryd.params3] at hA hval
  obtain ⟨v0, vs0, d0, ds0, p0, q0, hargs, rfl, rfl, h0, r0⟩ := trodAll_cons hA
  obtain ⟨rfl, rfl, rfl⟩ := trodAll_nil r0
  obtain rfl : args = #[v0] := by cases args; simp_all
  obtain ⟨rfl, rfl⟩ := trodVars_none hV
  simp only [List.append_nil] at hW'
  obtain ⟨ao, n, cap, hv0, hm, hcode⟩ := code_split (hval 0 22 v0 rfl rfl) h0
  clear hA0
  have fin : ∀ (e : Ending) (W' : World), e = .returned (.bool true) ∧ Below W.heap.size W W' → ∃ v, e = .returned v ∧ Rows.fnSignsSpec.post enc Tryd.prog Tryd.f3 false true false false W #[v0] v W' := fun e W' ⟨he, bel⟩ => by
    subst he
    exact ⟨_, rfl, _, _, _, [], _, [], hW', trodAll_mk1 (shut_bool Tryd.underlying4 _), trodAll_cons_mk (Below.trod laidOutK readsCode rowCode h0 bel (fun x hx => hlt x (by simp [hx]))) trodAll_mk0, rfl, bel.frame _, fun h => by cases h⟩
  by_cases hn : n ≤ 1048576
  · exact (walk v0 n W (hcode hn) ht).mono fin
  · subst hv0
    exact (walk_big ao n cap (by omega) hm W).mono fin

theorem laid_met (os : Os) : laidMet Tryd.prog Rows.fnSignsRow.laid ((laidWorld os).forCall (fun _ _ => 0) ⟨#[], #[.slice none 0 0], []⟩).memory :=
  laidMet_of_run' 8 (by kernel_rfl) (by kernel_rfl)
theorem reads (os : Os) {H : Type} (enc : TypeId × Value → H) : ∃ places, DataW.whole enc Tryd.prog ((laidWorld os).forCall (fun _ _ => 0) ⟨#[], #[.slice none 0 0], []⟩).memory Tryd.f3.params.toList Rows.fnSignsSpec.vars false (#[Value.slice none 0 0] : Array Value).toList 8 = some ([.nil], [], places) :=
  ⟨[], by kernel_rfl⟩

set_option maxRecDepth 100000 in
theorem lifted (os : Os) (started : os.Started) (H : Type) (enc : TypeId × Value → H) (F : Stop.Interp) :
    ReturnsInHanded {} Tryd.checked os 3 .any ((OpenSpec.ofChange Rows.fnSignsSpec).preRow enc Tryd.prog Tryd.f3 Rows.fnSignsRow.domain false Rows.fnSignsRow.laid) (((OpenSpec.ofChange Rows.fnSignsSpec).at F).post enc Tryd.prog Tryd.f3 false true false false) := by
  obtain ⟨places, hx⟩ := reads os enc
  refine returnsInHanded_of_row (C := Tryd.checked) (s := OpenSpec.ofChange Rows.fnSignsSpec) ownK started (by kernel_rfl) Tryd.func3
    (witness_row_at (enc := enc) (C := Tryd.checked) false (laidWorld os) #[.slice none 0 0] rfl (by kernel_rfl) (by kernel_rfl) (by kernel_rfl)
      (OpenSpec.preRow_of_cond 8 hx (by kernel_rfl) (fun k hk => by cases hk) (by kernel_rfl) (laid_met os))) ?_
  intro W base args ds gs before hval hW _ _ _ hL _ _
  exact contract H enc W base args ds gs before hval hW hL

theorem said : Rows.FnSignsSaid :=
  OpenClaim.holds_of_cond 3 Tryd.f3 rfl rfl rfl rfl rfl rfl rfl ⟨rfl, rfl, rfl, rfl, rfl⟩ rfl rfl rfl rfl rfl (by kernel_rfl) Tryd.func3 (by kernel_rfl)
    (of_decide_eq_true (by kernel_rfl)) (by unfold Func.isWrapper; first | (rw [if_pos (by decide +kernel)]; kernel_rfl) | (rw [if_neg (by decide +kernel)]; exact ⟨rfl, rfl⟩))
    (fun os started H enc _ F => by rw [OpenClaim.pre_eq_preRow]; exact lifted os started H enc F)

theorem plain (f : FuncId) (fn : Func) (hf : Tryd.pinned.checked.prog.funcNamed "loop.example/g00469/laws.FnSigns" = some f) (hfn : Tryd.pinned.checked.prog.funcs[f]? = some fn) :
    false = Tryd.pinned.checked.prog.looks [] ∧ ∀ (j : Nat) t, fn.params[j]? = some t → Tryd.pinned.checked.prog.wantsStandIn t = false := by
  obtain rfl : f = 3 := Option.some.inj ((show Tryd.prog.funcNamed "loop.example/g00469/laws.FnSigns" = some 3 by kernel_rfl).symm.trans hf) |>.symm
  obtain rfl : fn = Tryd.f3 := (Option.some.inj (Tryd.func3.symm.trans hfn)).symm
  refine ⟨by kernel_rfl, fun j t ht => ?_⟩
  rw [Tryd.params3] at ht
  have hm := Array.mem_of_getElem? ht
  simp only [List.mem_toArray, List.mem_cons, List.not_mem_nil, or_false] at hm
  rcases hm with rfl
  exact (show Tryd.prog.wantsStandIn 22 = false by kernel_rfl)

theorem proved : Rows.FnSignsCardSaid :=
  Claim7.holds_tied_plain_at .later [] _ _ _ _ said (fun _ h => by cases h) (by kernel_rfl) (fun _ h => by cases h) fnSigns_row_tie rfl ⟨rfl, rfl⟩ (by kernel_rfl) rfl plain (by kernel_rfl)
#print axioms proved
end Go.Proofs.YtcmnjpoapcoghabDoor.fnSigns
