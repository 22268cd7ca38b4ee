/- FnExactWriteTerm answers true at every term: the code's WriteTerm writes what the specification's writes, and leaves the term as it was. No condition but what the row itself lays (the tables of unicode/utf8, internal/strconv and math/bits). -/
import Derived.Test.YtenmhpalpfppmaoGreatDoorCards
import Derived.Test.YtenmhpalpfppmaoGreatDoorTie
import Derived.Test.YtenmhpalpfppmaoGreatDoorWtM
import Derived.Test.YtenmhpalpfppmaoGreatDoorTmSz
import Derived.Test.YtenmhpalpfppmaoGreatDoorTmRow
import Derived.Test.YtenmhpalpfppmaoGreatDoorMrg7
import Derived.Test.YtenmhpalpfppmaoGreatDoorTmEq
import Derived.Test.YtenmhpalpfppmaoGreatDoorMrg12
import Derived.Deep.RegionWith
import Derived.Lib.LaidU8T
import Derived.Carry
import Derived.ChangeOld
import Derived.ChangeMaps
import Derived.OpenShut
import Derived.Below
import Derived.Deep.DeepHandedRow
import Derived.Lib.LaidTab
import Derived.Stop.LaidErr
namespace Go.Proofs.YtenmhpalpfppmaoGreatDoor.fnExactWriteTerm
open Go.ChangeShapes Go.WideShapes Go.ChangeAt Go.RowKit

set_option maxHeartbeats 4000000 in
theorem walk (t : Tm) (v : Value) (w : World) (hin : TmIn w t v) (hT : TabsW w) :
    Calls Tryz.prog 3 #[v] w fun e w' => e = .returned (.bool true) ∧ Below w.heap.size w w' := by
  obtain ⟨k, s, n, ao, len, cap, rfl⟩ : ∃ k s n ao len cap, v = .agg #[.int .i64 k, .string s, .int .i64 n, .slice ao len cap] := by
    obtain ⟨k, s, n, ks⟩ := t
    unfold TmIn at hin
    obtain ⟨ao, cap, rfl, _⟩ := hin
    exact ⟨_, _, _, _, _, _, rfl⟩
  obtain ⟨W, hW⟩ : ∃ W, W = w.alloc (.cells #[.int .i64 k, .string s, .int .i64 n, .slice ao len cap] 24) := ⟨_, rfl⟩
  have hb0 : Below w.heap.size w W := by rw [hW]; exact (Below.refl _ _).alloc (Nat.le_refl _) _
  have hblk : W.heap[w.heap.size]? = some (.cells #[.int .i64 k, .string s, .int .i64 n, .slice ao len cap] 24 (0, 0)) := by rw [hW]; exact alloc_at _ _ rfl
  have hwW : w.heap.size < W.heap.size := by rw [hW]; simp
  have HIN : Hid (∀ w', Below W.heap.size W w' → TmIn w' t (.agg #[.int .i64 k, .string s, .int .i64 n, .slice ao len cap])) := fun w' hb => TmIn.keep hb _ _ (TmIn.keep hb0 _ _ hin)
  have HCELL : Hid (∀ w', Below W.heap.size W w' → w'.cell? ⟨w.heap.size, 0, none⟩ = some (.int .i64 k) ∧ w'.cell? ⟨w.heap.size, 1, none⟩ = some (.string s) ∧ w'.cell? ⟨w.heap.size, 2, none⟩ = some (.int .i64 n) ∧ w'.cell? ⟨w.heap.size, 3, none⟩ = some (.slice ao len cap)) := fun w' hb => by
    have h := (hb.block _ hwW).trans hblk
    exact ⟨blk_cell (i := 0) h (by simp), blk_cell (i := 1) h (by simp), blk_cell (i := 2) h (by simp), blk_cell (i := 3) h (by simp)⟩
  have HSZ := sz_term t W _ 1048576 (HIN.out W (Below.refl _ _)) (by omega)
  have HTB : Hid (∀ V, Below W.heap.size W V → TabsW V) := fun V hb => hT.keep (hb0.trans (hb.mono hb0.size))
  clear hin hblk hT
  by_cases hwt : t.wt ≤ 1048576
  · rw [show szR t.wt 1048576 = ((1048576 - t.wt : Nat) : Int) from if_pos hwt, hW] at HSZ
    replace HSZ : Hid _ := HSZ
    have hl : 0 ≤ ((1048576 - t.wt : Nat) : Int) := by omega
    generalize ((1048576 - t.wt : Nat) : Int) = left at *
    go_enter Tryz.func3, Tryz.ntmps3
    go_wp2_with (go_at_call 4; refine (Calls.mono HSZ.out ?_); rintro e w1 ⟨rfl, hb⟩; rw [← hW] at hb; have HB : Hid (Below W.heap.size W w1) := hb; obtain ⟨c0, c1, c2, c3⟩ := HCELL.out w1 hb; clear hb)
    clear c0 c1 c2 c3
    go_at_call 6
    refine (Calls.mono (to_term t w1 _ (HIN.out w1 HB.out) hwt) ?_)
    rintro e w2 ⟨v1, F1, rfl, o1, f1, n1, hb⟩
    have T1 := Own.toIn _ _ _ o1
    replace HB : Hid (Below W.heap.size W w2) := HB.out.trans (hb.mono HB.out.size)
    have HC := s_writeTerm t w2 v1 T1
    obtain ⟨k1, s1, m1, ao1, len1, cap1, rfl⟩ := own_shape o1
    replace HC : Hid _ := HC
    clear o1 f1 n1 hb T1
    go_wp2_with (go_at_call 5; refine (Calls.mono HC.out ?_); rintro e w3 ⟨rfl, hb⟩; replace HB : Hid (Below W.heap.size W w3) := HB.out.trans (hb.mono HB.out.size); obtain ⟨c0, c1, c2, c3⟩ := HCELL.out w3 HB.out; clear hb)
    clear c0 c1 c2 c3 HC
    go_at_call 6
    refine (Calls.mono (to_term t w3 _ (HIN.out w3 HB.out) hwt) ?_)
    rintro e w4 ⟨x0, F2, rfl, o2, f2, n2, hb⟩
    replace HB : Hid (Below W.heap.size W w4) := HB.out.trans (hb.mono HB.out.size)
    obtain ⟨k2, s2, m2, ao2, len2, cap2, rfl⟩ := own_shape o2
    have T2 : Hid (TmIn w4 t _) := Own.toIn _ _ _ o2
    clear o2 f2 n2 hb
    go_wp2_with (fail)
    obtain ⟨V, hV⟩ : ∃ V, V = w4.alloc (.cells #[.int .i64 k2, .string s2, .int .i64 m2, .slice ao2 len2 cap2] 29) := ⟨_, rfl⟩
    rw [← hV]
    have hbV : Below w4.heap.size w4 V := by rw [hV]; exact (Below.refl _ _).alloc (Nat.le_refl _) _
    have hblk2 : V.heap[w4.heap.size]? = some (.cells #[.int .i64 k2, .string s2, .int .i64 m2, .slice ao2 len2 cap2] 29 (0, 0)) := by rw [hV]; exact alloc_at _ _ rfl
    have hvV : w4.heap.size < V.heap.size := by rw [hV]; simp
    replace HB : Hid (Below W.heap.size W V) := HB.out.trans (hbV.mono HB.out.size)
    have TV : Hid (∀ w', Below V.heap.size V w' → TmIn w' t (.agg #[.int .i64 k2, .string s2, .int .i64 m2, .slice ao2 len2 cap2])) := fun w' hb => TmIn.keep hb _ _ (TmIn.keep hbV _ _ T2.out)
    have HX : Hid (∀ w', Below V.heap.size V w' → w'.cell? ⟨w4.heap.size, 0, none⟩ = some (.int .i64 k2) ∧ w'.cell? ⟨w4.heap.size, 1, none⟩ = some (.string s2) ∧ w'.cell? ⟨w4.heap.size, 2, none⟩ = some (.int .i64 m2) ∧ w'.cell? ⟨w4.heap.size, 3, none⟩ = some (.slice ao2 len2 cap2)) := fun w' hb => by
      have h := (hb.block _ hvV).trans hblk2
      exact ⟨blk_cell (i := 0) h (by simp), blk_cell (i := 1) h (by simp), blk_cell (i := 2) h (by simp), blk_cell (i := 3) h (by simp)⟩
    clear hV hbV hblk2 hvV T2
    have HC : Hid _ := i_writeTerm t V _ (TV.out V (Below.refl _ _)) (HTB.out V HB.out)
    go_wp2_with (go_at_call 7; refine (Calls.mono HC.out ?_); rintro e w5 ⟨rfl, hb⟩; have HB5 : Hid (Below V.heap.size V w5) := hb; obtain ⟨x0, x1, x2, x3⟩ := HX.out w5 hb; obtain ⟨c0, c1, c2, c3⟩ := HCELL.out w5 (HB.out.trans (hb.mono HB.out.size)); clear hb)
    have D1 : Hid (Below W.heap.size W w5.drew) := (HB.out.trans (HB5.out.mono HB.out.size)).drew
    have D2 : Hid (Below V.heap.size V w5.drew) := HB5.out.drew
    go_region_with (first
      | (go_at_call 6; refine (Calls.mono (to_term t _ _ (HIN.out _ D1.out) hwt) ?_); rintro e w6 ⟨v3, F3, rfl, o3, f3, n3, hb⟩; have T3 : Hid (TmIn w6 t v3) := Own.toIn _ _ _ o3; have hv6 : Hid (Below V.heap.size V w6) := D2.out.trans (hb.mono D2.out.size); obtain ⟨z0, z1, z2, z3⟩ := HX.out w6 hv6.out; clear o3 f3 n3 hb)
      | (go_at_call 8; refine (Calls.mono (eq_term t _ _ _ (TV.out _ hv6.out) T3.out) ?_); rintro e w7 ⟨rfl, hb⟩; have hv7 : Hid (Below V.heap.size V w7) := hv6.out.trans (hb.mono hv6.out.size); clear hb))
    all_goals
      go_wp2
      go_ret
      exact ⟨rfl, hb0.trans ((HB.out.trans (hv7.out.mono HB.out.size)).mono hb0.size)⟩
  · rw [show szR t.wt 1048576 = -1 from if_neg hwt, hW] at HSZ
    replace HSZ : Hid _ := HSZ
    go_enter Tryz.func3, Tryz.ntmps3
    go_wp2_with (go_at_call 4; refine (Calls.mono HSZ.out ?_); rintro e w1 ⟨rfl, hb⟩; rw [← hW] at hb; have HB : Hid (Below w.heap.size w w1) := hb0.trans (hb.mono hb0.size); clear hb)
    go_ret
    exact ⟨rfl, HB.out⟩

theorem own : ownKnob Tryz.prog.godebug = none := by kernel_rfl
theorem types8 : U8Types Tryz.prog sh_lays197_ren := { sh_lays197 with }
theorem extra8 : U8Extra Tryz.prog sh_lays197_ren := ⟨by kernel_rfl, by kernel_rfl, by kernel_rfl, by kernel_rfl, by kernel_rfl, by kernel_rfl, by kernel_rfl⟩
theorem firstIs : Rows.laid_unicode_utf8_first = Lib.firstData := by kernel_rfl
theorem acceptIs : Rows.laid_unicode_utf8_acceptRanges = Lib.acceptData := by kernel_rfl
theorem gTab : Tryz.prog.globalNamed "internal/strconv.uint64pow10" = some 0 := by kernel_rfl
theorem gTabType : (Tryz.prog.globals[0]?).map (·.type) = some 106 := by kernel_rfl
theorem cellsT : Tryz.prog.cellsOf 106 = 20 := by kernel_rfl
theorem cellsE : Tryz.prog.cellsOf 94 = 1 := by kernel_rfl
theorem table {W : World} (h : laidMetH Tryz.prog Rows.fnExactWriteTermRow.laid W) : TabsW W := by
  have h1 : laidMet Tryz.prog [("math/bits.deBruijn32tab", Rows.laid_math_bits_deBruijn32tab), ("math/bits.deBruijn64tab", Rows.laid_math_bits_deBruijn64tab), ("internal/strconv.uint64pow10", Rows.laid_internal_strconv_uint64pow10), ("unicode/utf8.acceptRanges", Rows.laid_unicode_utf8_acceptRanges), ("unicode/utf8.first", Rows.laid_unicode_utf8_first)] W := h
  have h2 : Lib.TabIs Tryz.prog W "internal/strconv.uint64pow10" .u64 Lib.pow10Tab := Lib.tabIs_of_head (rest := [("unicode/utf8.acceptRanges", Rows.laid_unicode_utf8_acceptRanges), ("unicode/utf8.first", Rows.laid_unicode_utf8_first)]) gTab gTabType Tryz.underlying106 Tryz.underlying94 cellsE cellsT (laidMet.tail (laidMet.tail h1))
  rw [firstIs, acceptIs] at h1
  exact ⟨utf8Tabs_of_readsT types8 extra8 (Lib.laidMet.reads h1 (by simp)) (Lib.laidMet.reads h1 (by simp)), h2⟩

/-- the cells that a table lays -/
def litCells : DataW Unit → Array Value
  | .agg parts => (parts.flatMap fun
    | .lit (.int k z) => [Value.int k z]
    | .agg qs => qs.map fun
      | .lit (.int k z) => Value.int k z
      | _ => Value.bool false
    | _ => [Value.bool false]).toArray
  | _ => #[]
def setTab (cs : Array Value) : Obj → Obj
  | .cells _ t frozen => .cells cs t frozen
  | o => o

set_option maxRecDepth 20000 in
theorem contract (H : Type) (enc : TypeId × Value → H) (W : World) (base : Nat) (args : Array Value) (ds gs : List (DataW H)) (before : List MemPlace)
    (hval : ∀ (j : Nat) t v, Tryz.f3.params[j]? = some t → args[j]? = some v → Value.okWide Tryz.prog W .any base t v)
    (hW : DataW.Whole enc Tryz.prog Tryz.f3.params.toList Rows.fnExactWriteTermSpec.vars false W args.toList ds gs before) (hL : laidMetH Tryz.prog Rows.fnExactWriteTermRow.laid W) :
    Calls Tryz.prog 3 args W fun e W' => ∃ v, e = .returned v ∧ Rows.fnExactWriteTermSpec.post enc Tryz.prog Tryz.f3 false true false false W args v W' := by
  have ht : TabsW W := table hL
  have hW' := hW
  have hlt := hW.lt
  obtain ⟨p, q, hA0, hV, rfl, hfz, hnd⟩ := hW
  have hA : DataW.TrodAll enc Tryz.prog W 0 (fun _ => true) true Tryz.f3.params.toList args.toList ds p := hA0
  rw [Tryz.params3] at hA hval
  obtain ⟨v0, vs0, d0, ds0, p0, q0, hargs, rfl, rfl, h0, r0⟩ := trodAll_cons hA
  obtain ⟨rfl, rfl, rfl⟩ := trodAll_nil r0
  obtain rfl : args = #[v0] := by cases args; simp_all
  obtain ⟨rfl, rfl⟩ := trodVars_none hV
  simp only [List.append_nil] at hW'
  obtain ⟨t0, hin0⟩ := tm_split (hval 0 24 v0 rfl rfl) h0
  clear hA0
  refine (walk t0 v0 W hin0 ht).mono fun e W' ⟨he, bel⟩ => ?_
  subst he
  exact ⟨_, rfl, _, _, _, [], _, [], hW', trodAll_mk1 (shut_bool Tryz.underlying4 _), (trodAll_cons_mk (Below.trod laidOutT readsTm rowTm h0 bel (fun x hx => hlt x (by simp [hx]))) trodAll_mk0), rfl, bel.frame _, fun h => by cases h⟩

/-- a world for the witness: the settled one, the tables holding what their initialisers lay -/
noncomputable def laidWorld (os : Os) : World :=
  { World.holding Tryz.prog os ⟨#[], #[], []⟩ with heap := (((((World.holding Tryz.prog os ⟨#[], #[], []⟩).heap.modify 1 (setTab (litCells Rows.laid_math_bits_deBruijn32tab))).modify 2 (setTab (litCells Rows.laid_math_bits_deBruijn64tab))).modify 0 (setTab (litCells Rows.laid_internal_strconv_uint64pow10))).modify 4 (setTab (litCells Rows.laid_unicode_utf8_acceptRanges))).modify 3 (setTab (litCells Rows.laid_unicode_utf8_first)) }
set_option maxRecDepth 20000 in
theorem laid_met (os : Os) : laidMet Tryz.prog Rows.fnExactWriteTermRow.laid ((laidWorld os).forCall (fun _ _ => 0) ⟨#[], #[.agg #[.int .i64 0, .string .empty, .int .i64 0, .slice none 0 0]], []⟩).memory :=
  laidMet_of_run' 8 (by kernel_rfl) (by kernel_rfl)
set_option maxRecDepth 20000 in
theorem reads (os : Os) {H : Type} (enc : TypeId × Value → H) : ∃ places, DataW.whole enc Tryz.prog ((laidWorld os).forCall (fun _ _ => 0) ⟨#[], #[.agg #[.int .i64 0, .string .empty, .int .i64 0, .slice none 0 0]], []⟩).memory Tryz.f3.params.toList Rows.fnExactWriteTermSpec.vars false (#[Value.agg #[.int .i64 0, .string .empty, .int .i64 0, .slice none 0 0]] : Array Value).toList 8 = some ([.agg [.lit (.int .i64 0), .lit (.string []), .lit (.int .i64 0), .nil]], [], places) :=
  ⟨[], by kernel_rfl⟩

set_option maxRecDepth 100000 in
theorem lifted (os : Os) (started : os.Started) (H : Type) (enc : TypeId × Value → H) (F : Stop.Interp) :
    ReturnsInHanded {} Tryz.checked os 3 .any ((OpenSpec.ofChange Rows.fnExactWriteTermSpec).preRow enc Tryz.prog Tryz.f3 Rows.fnExactWriteTermRow.domain false Rows.fnExactWriteTermRow.laid) (((OpenSpec.ofChange Rows.fnExactWriteTermSpec).at F).post enc Tryz.prog Tryz.f3 false true false false) := by
  obtain ⟨places, hx⟩ := reads os enc
  refine returnsInHanded_of_row (C := Tryz.checked) (s := OpenSpec.ofChange Rows.fnExactWriteTermSpec) own started (by kernel_rfl) Tryz.func3
    (witness_row_at (enc := enc) (C := Tryz.checked) false (laidWorld os) #[.agg #[.int .i64 0, .string .empty, .int .i64 0, .slice none 0 0]] rfl (by kernel_rfl) (by kernel_rfl) (by kernel_rfl)
      (OpenSpec.preRow_of_cond 8 hx (by kernel_rfl) (fun k hk => by cases hk) (by kernel_rfl) (laid_met os))) ?_
  intro W base args ds gs before hval hW _ _ _ hL _ _
  exact contract H enc W base args ds gs before hval hW hL

theorem said : Rows.FnExactWriteTermSaid :=
  OpenClaim.holds_of_cond 3 Tryz.f3 rfl rfl rfl rfl rfl rfl rfl ⟨rfl, rfl, rfl, rfl, rfl⟩ rfl rfl rfl rfl rfl (by kernel_rfl) Tryz.func3 (by kernel_rfl)
    (of_decide_eq_true (by kernel_rfl)) (by unfold Func.isWrapper; first | (rw [if_pos (by decide +kernel)]; kernel_rfl) | (rw [if_neg (by decide +kernel)]; exact ⟨rfl, rfl⟩))
    (fun os started H enc _ F => by rw [OpenClaim.pre_eq_preRow]; exact lifted os started H enc F)

theorem plain (f : FuncId) (fn : Func) (hf : Tryz.pinned.checked.prog.funcNamed "loop.example/g00469/laws.FnExactWriteTerm" = some f) (hfn : Tryz.pinned.checked.prog.funcs[f]? = some fn) :
    true = Tryz.pinned.checked.prog.looks [] ∧ ∀ (j : Nat) t, fn.params[j]? = some t → Tryz.pinned.checked.prog.wantsStandIn t = false := by
  obtain rfl : f = 3 := Option.some.inj ((show Tryz.prog.funcNamed "loop.example/g00469/laws.FnExactWriteTerm" = some 3 by kernel_rfl).symm.trans hf) |>.symm
  obtain rfl : fn = Tryz.f3 := (Option.some.inj (Tryz.func3.symm.trans hfn)).symm
  refine ⟨by kernel_rfl, fun j t ht => ?_⟩
  rw [Tryz.params3] at ht
  obtain rfl : t = 24 := by simpa using Array.mem_of_getElem? ht
  exact (show Tryz.prog.wantsStandIn 24 = false by kernel_rfl)

theorem proved : Rows.FnExactWriteTermCardSaid :=
  Claim7.holds_tied_plain_at .later [] _ _ _ _ said (fun _ h => by cases h) (by kernel_rfl) (fun _ h => by cases h) fnExactWriteTerm_row_tie rfl ⟨rfl, rfl⟩ (by kernel_rfl) rfl plain (by kernel_rfl)
#print axioms proved
end Go.Proofs.YtenmhpalpfppmaoGreatDoor.fnExactWriteTerm
