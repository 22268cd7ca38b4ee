/- FnExactDbOk answers true at every Db: the code's DbOk tells what the specification's tells, and leaves the clauses and names as they were. No condition but what the row itself lays (the tables of internal/strconv and math/bits). -/
import Derived.Test.YtmhmlkdoaojimapDoorCards
import Derived.Test.YtmhmlkdoaojimapDoorTie
import Derived.Test.YtmhmlkdoaojimapDoorMrg11
import Derived.Test.YtmhmlkdoaojimapDoorDokI
import Derived.Test.YtmhmlkdoaojimapDoorClsRow
import Derived.Test.YtmhmlkdoaojimapDoorClsSz
import Derived.Test.YtmhmlkdoaojimapDoorDbFr
import Derived.Test.YtmhmlkdoaojimapDoorRegFact
import Derived.Deep.RegionWith
import Derived.Deep.DeepCutAuto
import Derived.Carry
import Derived.ChangeOld
import Derived.ChangeMaps
import Derived.OpenShut
import Derived.ShutString
import Derived.Below
import Derived.Deep.DeepHandedRow
import Derived.Lib.LaidTab
import Derived.Stop.LaidErr
namespace Go.Proofs.YtmhmlkdoaojimapDoor.fnExactDbOk
open Go.ChangeShapes Go.WideShapes Go.ChangeAt Go.RowKit
open Go.ChangeMaps (open_string shut_string)

abbrev PowW (w : World) : Prop := Lib.TabIs Tryd.prog w "internal/strconv.uint64pow10" .u64 Lib.pow10Tab

set_option maxHeartbeats 8000000 in
set_option maxRecDepth 20000 in
theorem walk (cs : List Cla) (xs : List ByteArray) (w : World) (c0 c1 : Value) (i1 : ClsIn w cs c0) (i2 : SsIn w xs c1) (hT : PowW w) :
    Calls Tryd.prog 3 #[.agg #[c0, c1]] w fun e w' => e = .returned (.bool true) ∧ Below w.heap.size w w' := by
  obtain ⟨W, hW⟩ : ∃ W, W = w.alloc (.cells #[c0, c1] 25) := ⟨_, rfl⟩
  have bW : Below w.heap.size w W := by rw [hW]; exact (Below.refl _ _).alloc (Nat.le_refl _) _
  have q1 : W.heap[w.heap.size]? = some (.cells #[c0, c1] 25 (0, 0)) := by rw [hW]; exact heap_alloc_new w _
  have HARG : Hid (∀ w', Below W.heap.size W w' → ClsIn w' cs c0 ∧ SsIn w' xs c1 ∧ w'.cell? ⟨w.heap.size, 0, none⟩ = some c0 ∧ w'.cell? ⟨w.heap.size, 1, none⟩ = some c1) := fun w' hb => by
    have hq := (hb.block _ (Array.getElem?_eq_some_iff.1 q1).1).trans q1
    exact ⟨(i1.keep bW).keep hb, (i2.keep bW).keep hb, blk_cell (i := 0) hq (by simp), blk_cell (i := 1) hq (by simp)⟩
  have HTB : Hid (∀ V, Below W.heap.size W V → PowW V) := fun V hb => pow_keep hT (bW.trans (hb.mono bW.size))
  have HSZ := sz_db cs xs W c0 c1 1048576 (i1.keep bW) (i2.keep bW) (Nat.le_refl _)
  have HBW : Hid (Below w.heap.size w W) := bW
  obtain ⟨a2, p2, rfl, -⟩ := i2
  obtain ⟨a1, p1, rfl, -⟩ := i1
  clear q1 bW hT
  by_cases hwt : dbWt cs xs ≤ 1048576
  · rw [show szR (dbWt cs xs) 1048576 = ((1048576 - dbWt cs xs : Nat) : Int) from if_pos hwt, hW] at HSZ
    replace HSZ : Hid _ := HSZ
    have hl : ¬ ((1048576 - dbWt cs xs : Nat) : Int) < 0 := by omega
    generalize ((1048576 - dbWt cs xs : Nat) : Int) = L1 at *
    have hw1 : cs.length + claWts cs ≤ 1048576 := by unfold dbWt at hwt; omega
    have hw2 : xs.length + strWts xs ≤ 1048576 := by unfold dbWt at hwt; omega
    have hsz : ∀ x ∈ xs, x.size ≤ maxLen := fun x hx => by have := strWt_le hx; unfold maxLen; omega
    have HTO : Hid (∀ w1 c0 c1, ClsIn w1 cs c0 → SsIn w1 xs c1 → Calls Tryd.prog 9 #[.agg #[c0, c1]] w1 fun e w' => ∃ d0 d1 F, e = .returned (.agg #[d0, d1]) ∧ DbOwn w' cs xs d0 d1 F ∧ (∀ x ∈ F, w1.heap.size ≤ x) ∧ Below w1.heap.size w1 w') := fun w1 c0 c1 h1 h2 => to_dbO cs xs w1 c0 c1 h1 h2 hw1 (by omega)
    have hwc : ∀ c ∈ cs, c.h.wt ≤ 1048576 := fun c hc => by have := hWt8 hc; omega
    obtain ⟨kb, hkb⟩ : ∃ kb : Bool, kb = true ↔ ((∀ c ∈ cs, okCl c = true) ∧ cs.length ≤ 120 ∧ xs.length ≤ 40) := by
      by_cases h9 : (∀ c ∈ cs, okCl c = true) ∧ cs.length ≤ 120 ∧ xs.length ≤ 40
      · exact ⟨true, iff_of_true rfl h9⟩
      · exact ⟨false, iff_of_false (by simp) h9⟩
    have HSP : Hid (∀ w1 c0 c1 F, DbOwn w1 cs xs c0 c1 F → Below W.heap.size W w1 → Calls Tryd.prog 8 #[.agg #[c0, c1]] w1 fun e w' => e = .returned (.bool kb) ∧ Below w1.heap.size w1 w') := fun w1 c0 c1 F h _ => by
      obtain ⟨a1, a2, _⟩ := h.args hsz
      exact s_dbOk cs xs w1 c0 c1 a1 a2 (by omega) (by omega) hwc kb hkb
    have HIM : Hid (∀ w1 c0 c1 F, DbOwn w1 cs xs c0 c1 F → Below W.heap.size W w1 → Calls Tryd.prog 10 #[.agg #[c0, c1]] w1 fun e w' => e = .returned (.bool kb) ∧ Below w1.heap.size w1 w') := fun w1 c0 c1 F h hb => by
      obtain ⟨a1, a2, F0, a3, a4⟩ := h.args hsz
      exact i_dbOk cs xs w1 c0 c1 F0 a3 a4 a2 (by omega) hwc (HTB.out w1 hb) kb hkb
    clear hwc
    have HEX : Hid (∀ w1 c0 c1 d0 d1 F G, DbOwn w1 cs xs c0 c1 F → DbOwn w1 cs xs d0 d1 G → Calls Tryd.prog 11 #[.agg #[c0, c1], .agg #[d0, d1]] w1 fun e w' => e = .returned (.bool true) ∧ Below w1.heap.size w1 w') := fun w1 c0 c1 d0 d1 F G h1 h2 => eq_dbO cs xs w1 c0 c1 d0 d1 F G h1 h2 (by omega)
    clear hwt hw1 hw2 hsz hkb
    go_enter Tryd.func3, Tryd.ntmps3
    go_upto_region 5 with (go_at_call 7; refine (Calls.mono HSZ.out ?_); rintro e w1 ⟨rfl, hb⟩; rw [← hW] at hb; have HB : Hid (Below W.heap.size W w1) := hb; clear hb)
    -- w0
    skip
    obtain ⟨g1, g2, y0, y1⟩ := HARG.out w1 HB.out
    have HC1 : Hid _ := HTO.out w1 _ _ g1 g2
    clear g1 g2 hW HSZ hl
    go_upto_region 6 with (first
      | (go_at_call 9; refine (Calls.mono HC1.out ?_); rintro e w2 ⟨d0, d1, F1, rfl, o1, _, hb⟩; have HB2 : Hid (Below W.heap.size W w2) := HB.out.trans (hb.mono HB.out.size); have HC2 : Hid _ := HSP.out w2 _ _ _ o1 HB2.out; clear o1 hb)
      | (go_at_call 8; refine (Calls.mono HC2.out ?_); rintro e w3 ⟨rfl, hb⟩; have HB3 : Hid (Below W.heap.size W w3) := HB2.out.trans (hb.mono HB2.out.size); clear hb))
    clear y0 y1 HC1 HC2
    -- x0
    obtain ⟨g1, g2, y0, y1⟩ := HARG.out w3 HB3.out
    have HC7 : Hid _ := HTO.out w3 _ _ g1 g2
    clear g1 g2
    go_upto_region 7 with (go_at_call 9; refine (Calls.mono HC7.out ?_); rintro e w4 ⟨d7, e7, F7, rfl, o7, _, b7⟩; obtain ⟨a7, p7, b77, l7, m7, rfl, rfl⟩ := o7.shape; have O7 : Hid (DbOwn w4 cs xs (.slice a7 cs.length p7) (.slice b77 l7 m7) F7) := o7; have B7 : Hid (Below W.heap.size W w4) := HB3.out.trans (b7.mono HB3.out.size); clear o7 b7)
    clear y0 y1
    obtain ⟨W4, hW4⟩ : ∃ W4, W4 = w4.alloc (.cells #[.slice a7 cs.length p7, .slice b77 l7 m7] 30) := ⟨_, rfl⟩
    rw [← hW4]
    have bW4 : Below w4.heap.size w4 W4 := by rw [hW4]; exact (Below.refl _ _).alloc (Nat.le_refl _) _
    have k7b : W4.heap[w4.heap.size]? = some (.cells #[.slice a7 cs.length p7, .slice b77 l7 m7] 30 (0, 0)) := by rw [hW4]; exact heap_alloc_new _ _
    have HB4 : Hid (Below W.heap.size W W4) := B7.out.trans (bW4.mono B7.out.size)
    have O7' : Hid (DbOwn W4 cs xs (.slice a7 cs.length p7) (.slice b77 l7 m7) F7) := O7.out.below bW4
    obtain ⟨q7, hp7⟩ : ∃ q7, q7 = w4.heap.size := ⟨_, rfl⟩
    rw [← hp7] at k7b ⊢
    have K7 : Hid (W4.heap[q7]? = some (.cells #[.slice a7 cs.length p7, .slice b77 l7 m7] 30 (0, 0))) := k7b
    clear hW4 bW4 k7b O7 B7 hp7 HC7
    -- g0
    have e0 := blk_cell (i := 0) K7.out (by simp)
    have e1 := blk_cell (i := 1) K7.out (by simp)
    have HC9 : Hid _ := HIM.out W4 _ _ F7 O7'.out HB4.out
    go_upto_region 10 with (go_at_call 10; refine (Calls.mono HC9.out ?_); rintro e w6 ⟨rfl, b9⟩; have B9 : Hid (Below W4.heap.size W4 w6) := b9; clear b9)
    clear e0 e1 HC9
    -- x0 is as it was
    refine wp_region_facts 4 (fun i v _ w' => match i with
      | 0 => v = .agg #[.slice a7 cs.length p7, .slice b77 l7 m7]
      | 1 => v = .agg #[.slice a1 cs.length p1, .slice a2 xs.length p2]
      | 2 => ∃ a13 p13 b13 l13 m13 F13, v = .agg #[.slice a13 cs.length p13, .slice b13 l13 m13] ∧ DbOwn w' cs xs (.slice a13 cs.length p13) (.slice b13 l13 m13) F13
      | _ => v = .bool true) (by kernel_rfl) (by kernel_rfl) 27 rfl (by kernel_rfl) ?_ ?_ ?_
    · intro i v S w w' hi h hb
      match i, hi, h with
      | 0, _, h => exact h
      | 1, _, h => exact h
      | 2, _, ⟨a13, p13, b13, l13, m13, F13, h1, h2⟩ => exact ⟨a13, p13, b13, l13, m13, F13, h1, h2.below hb⟩
      | 3, _, h => exact h
    · intro i o hi ho a w' hb hfr hdep
      have hb4 : Below W4.heap.size W4 w' := B9.out.trans (hb.mono B9.out.size)
      have hq7 := (hb4.block q7 (Array.getElem?_eq_some_iff.1 K7.out).1).trans K7.out
      have m0 := blk_cell (i := 0) hq7 (by simp)
      have m1 := blk_cell (i := 1) hq7 (by simp)
      clear hq7
      obtain ⟨g1, g2, y0, y1⟩ := HARG.out w' (HB4.out.trans (hb4.mono HB4.out.size))
      have u2 : a.tmps.getD 1 undef = .pointer (some ⟨w.heap.size, 0, none⟩) := hfr 1 (by decide)
      have u7 : a.tmps.getD 5 undef = .pointer (some ⟨q7, 0, none⟩) := hfr 5 (by decide)
      match i, hi with
      | 0, _ =>
        obtain rfl : _ = o := by simpa using ho
        refine fact_value (w' := w') (v := .agg #[.slice a7 cs.length p7, .slice b77 l7 m7]) ?_ (Below.refl _ _) ⟨[], rfl, by simp⟩
        clear g1 g2
        simp only [execOp, Act.eval, u7]
        go_simp
      | 1, _ =>
        obtain rfl : _ = o := by simpa using ho
        refine fact_value (w' := w') (v := .agg #[.slice a1 cs.length p1, .slice a2 xs.length p2]) ?_ (Below.refl _ _) ⟨[], rfl, by simp⟩
        clear g1 g2
        simp only [execOp, Act.eval, u2]
        go_simp
      | 2, _ =>
        obtain rfl : _ = o := by simpa using ho
        obtain ⟨_, h0⟩ : ∃ _ : List Nat, a.tmps.getD 23 undef = .agg #[.slice a1 cs.length p1, .slice a2 xs.length p2] := hdep 1 (by kernel_rfl)
        refine fact_call rfl Tryd.func9 (by kernel_rfl) (by kernel_rfl) (args := #[.agg #[.slice a1 cs.length p1, .slice a2 xs.length p2]]) ?_ ?_
        · simp [Act.eval, h0]
        · refine Calls.mono (HTO.out w' _ _ g1 g2) ?_
          rintro e w4 ⟨d0, d1, F, rfl, o1, _, hb4⟩
          obtain ⟨a13, p13, b13, l13, m13, rfl, rfl⟩ := o1.shape
          exact ⟨_, rfl, hb4, [], ⟨_, _, _, _, _, _, rfl, o1⟩, by simp⟩
      | 3, _ =>
        obtain rfl : _ = o := by simpa using ho
        obtain ⟨_, h0⟩ : ∃ _ : List Nat, a.tmps.getD 22 undef = .agg #[.slice a7 cs.length p7, .slice b77 l7 m7] := hdep 0 (by kernel_rfl)
        obtain ⟨_, a13, p13, b13, l13, m13, F13, h1, h2⟩ : ∃ _ : List Nat, ∃ a13 p13 b13 l13 m13 F13, a.tmps.getD 24 undef = .agg #[.slice a13 cs.length p13, .slice b13 l13 m13] ∧ DbOwn w' cs xs (.slice a13 cs.length p13) (.slice b13 l13 m13) F13 := hdep 2 (by kernel_rfl)
        refine fact_call rfl Tryd.func11 (by kernel_rfl) (by kernel_rfl) (args := #[.agg #[.slice a7 cs.length p7, .slice b77 l7 m7], .agg #[.slice a13 cs.length p13, .slice b13 l13 m13]]) ?_ ?_
        · simp [Act.eval, h0]; simpa using h1
        · refine Calls.mono (HEX.out w' _ _ _ _ _ _ (O7'.out.below hb4) h2) ?_
          rintro e w4 ⟨rfl, hb4⟩
          exact ⟨_, rfl, hb4, [], rfl, by simp⟩
    intro vals S w9 hb hf _
    have h3 : vals 3 = .bool true := (hf 3 (by omega)).1
    have U9 : Hid (Below W4.heap.size W4 w9) := B9.out.trans (hb.mono B9.out.size)
    simp only [putN, List.getElem?_toArray, List.getElem?_cons_zero, List.getElem?_cons_succ, Option.bind_some, List.drop_succ_cons, List.drop_zero, h3]
    generalize vals 0 = v31
    generalize vals 1 = v32
    generalize vals 2 = v33
    clear hf h3 hb
    go_wp2
    go_ret
    refine ⟨rfl, ?_⟩
    have h2 := HB4.out.trans (U9.out.mono HB4.out.size)
    exact HBW.out.trans (h2.mono HBW.out.size)
  · rw [show szR (dbWt cs xs) 1048576 = -1 from if_neg hwt, hW] at HSZ
    replace HSZ : Hid _ := HSZ
    clear hwt
    go_enter Tryd.func3, Tryd.ntmps3
    go_wp2_with (go_at_call 7; refine (Calls.mono HSZ.out ?_); rintro e w1 ⟨rfl, hb⟩; rw [← hW] at hb; have HB : Hid (Below w.heap.size w w1) := HBW.out.trans (hb.mono HBW.out.size); clear hb)
    go_ret
    exact ⟨rfl, HB.out⟩

theorem own : ownKnob Tryd.prog.godebug = none := by kernel_rfl
theorem gTab : Tryd.prog.globalNamed "internal/strconv.uint64pow10" = some 0 := by kernel_rfl
theorem gTabType : (Tryd.prog.globals[0]?).map (·.type) = some 163 := by kernel_rfl
theorem cellsT : Tryd.prog.cellsOf 163 = 20 := by kernel_rfl
theorem cellsE : Tryd.prog.cellsOf 156 = 1 := by kernel_rfl
theorem table {W : World} (h : laidMetH Tryd.prog Rows.fnExactDbOkRow.laid W) : Lib.TabIs Tryd.prog W "internal/strconv.uint64pow10" .u64 Lib.pow10Tab :=
  Lib.tabIs_of_head (rest := []) gTab gTabType Tryd.underlying163 Tryd.underlying156 cellsE cellsT (laidMet.tail (laidMet.tail h))

/-- the cells that a table lays -/
def litCells : DataW Unit → Array Value
  | .agg parts => (parts.flatMap fun
    | .lit (.int k z) => [Value.int k z]
    | .agg qs => qs.map fun
      | .lit (.int k z) => Value.int k z
      | _ => Value.bool false
    | _ => [Value.bool false]).toArray
  | _ => #[]
def setTab (cs : Array Value) : Obj → Obj
  | .cells _ t frozen => .cells cs t frozen
  | o => o

set_option maxRecDepth 20000 in
theorem contract (H : Type) (enc : TypeId × Value → H) (W : World) (base : Nat) (args : Array Value) (ds gs : List (DataW H)) (before : List MemPlace)
    (hval : ∀ (j : Nat) t v, Tryd.f3.params[j]? = some t → args[j]? = some v → Value.okWide Tryd.prog W .any base t v)
    (hW : DataW.Whole enc Tryd.prog Tryd.f3.params.toList Rows.fnExactDbOkSpec.vars false W args.toList ds gs before) (hL : laidMetH Tryd.prog Rows.fnExactDbOkRow.laid W) :
    Calls Tryd.prog 3 args W fun e W' => ∃ v, e = .returned v ∧ Rows.fnExactDbOkSpec.post enc Tryd.prog Tryd.f3 false true false false W args v W' := by
  have ht : PowW W := table hL
  have hW' := hW
  have hlt := hW.lt
  obtain ⟨p, q, hA0, hV, rfl, hfz, hnd⟩ := hW
  have hA : DataW.TrodAll enc Tryd.prog W 0 (fun _ => true) true Tryd.f3.params.toList args.toList ds p := hA0
  rw [Tryd.params3] at hA hval
  obtain ⟨v0, vs0, d0, ds0, p0, q0, hargs, rfl, rfl, h0, r0⟩ := trodAll_cons hA
  obtain ⟨rfl, rfl, rfl⟩ := trodAll_nil r0
  obtain rfl : args = #[v0] := by cases args; simp_all
  obtain ⟨rfl, rfl⟩ := trodVars_none hV
  simp only [List.append_nil] at hW'
  obtain ⟨cs0, xs0, c0, e0, rfl, i0, k0⟩ := db_split (hval 0 25 v0 rfl rfl) h0
  clear hA0
  refine (walk cs0 xs0 W _ _ i0 k0 ht).mono fun e W' ⟨he, bel⟩ => ?_
  subst he
  exact ⟨_, rfl, _, _, _, [], _, [], hW', trodAll_mk1 (shut_bool Tryd.underlying4 _), (trodAll_cons_mk (Below.trod laidOutT readsDb rowDb h0 bel (fun x hx => hlt x (by simp [hx]))) trodAll_mk0), rfl, bel.frame _, fun h => by cases h⟩

/-- a world for the witness: the settled one, the tables holding what their initialisers lay -/
noncomputable def laidWorld (os : Os) : World :=
  { World.holding Tryd.prog os ⟨#[], #[], []⟩ with heap := (((World.holding Tryd.prog os ⟨#[], #[], []⟩).heap.modify 1 (setTab (litCells Rows.laid_math_bits_deBruijn32tab))).modify 2 (setTab (litCells Rows.laid_math_bits_deBruijn64tab))).modify 0 (setTab (litCells Rows.laid_internal_strconv_uint64pow10)) }
set_option maxRecDepth 20000 in
theorem laid_met (os : Os) : laidMet Tryd.prog Rows.fnExactDbOkRow.laid ((laidWorld os).forCall (fun _ _ => 0) ⟨#[], #[.agg #[.slice none 0 0, .slice none 0 0]], []⟩).memory :=
  laidMet_of_run' 8 (by kernel_rfl) (by kernel_rfl)
set_option maxRecDepth 20000 in
theorem reads (os : Os) {H : Type} (enc : TypeId × Value → H) : ∃ places, DataW.whole enc Tryd.prog ((laidWorld os).forCall (fun _ _ => 0) ⟨#[], #[.agg #[.slice none 0 0, .slice none 0 0]], []⟩).memory Tryd.f3.params.toList Rows.fnExactDbOkSpec.vars false (#[Value.agg #[.slice none 0 0, .slice none 0 0]] : Array Value).toList 8 = some ([.agg [.nil, .nil]], [], places) :=
  ⟨[], by kernel_rfl⟩

set_option maxRecDepth 100000 in
theorem lifted (os : Os) (started : os.Started) (H : Type) (enc : TypeId × Value → H) (F : Stop.Interp) :
    ReturnsInHanded {} Tryd.checked os 3 .any ((OpenSpec.ofChange Rows.fnExactDbOkSpec).preRow enc Tryd.prog Tryd.f3 Rows.fnExactDbOkRow.domain false Rows.fnExactDbOkRow.laid) (((OpenSpec.ofChange Rows.fnExactDbOkSpec).at F).post enc Tryd.prog Tryd.f3 false true false false) := by
  obtain ⟨places, hx⟩ := reads os enc
  refine returnsInHanded_of_row (C := Tryd.checked) (s := OpenSpec.ofChange Rows.fnExactDbOkSpec) own started (by kernel_rfl) Tryd.func3
    (witness_row_at (enc := enc) (C := Tryd.checked) false (laidWorld os) #[.agg #[.slice none 0 0, .slice none 0 0]] rfl (by kernel_rfl) (by kernel_rfl) (by kernel_rfl)
      (OpenSpec.preRow_of_cond 8 hx (by kernel_rfl) (fun k hk => by cases hk) (by kernel_rfl) (laid_met os))) ?_
  intro W base args ds gs before hval hW _ _ _ hL _ _
  exact contract H enc W base args ds gs before hval hW hL

theorem said : Rows.FnExactDbOkSaid :=
  OpenClaim.holds_of_cond 3 Tryd.f3 rfl rfl rfl rfl rfl rfl rfl ⟨rfl, rfl, rfl, rfl, rfl⟩ rfl rfl rfl rfl rfl (by kernel_rfl) Tryd.func3 (by kernel_rfl)
    (of_decide_eq_true (by kernel_rfl)) (by unfold Func.isWrapper; first | (rw [if_pos (by decide +kernel)]; kernel_rfl) | (rw [if_neg (by decide +kernel)]; exact ⟨rfl, rfl⟩))
    (fun os started H enc _ F => by rw [OpenClaim.pre_eq_preRow]; exact lifted os started H enc F)

theorem plain (f : FuncId) (fn : Func) (hf : Tryd.pinned.checked.prog.funcNamed "loop.example/g00469/laws.FnExactDbOk" = some f) (hfn : Tryd.pinned.checked.prog.funcs[f]? = some fn) :
    true = Tryd.pinned.checked.prog.looks [] ∧ ∀ (j : Nat) t, fn.params[j]? = some t → Tryd.pinned.checked.prog.wantsStandIn t = false := by
  obtain rfl : f = 3 := Option.some.inj ((show Tryd.prog.funcNamed "loop.example/g00469/laws.FnExactDbOk" = some 3 by kernel_rfl).symm.trans hf) |>.symm
  obtain rfl : fn = Tryd.f3 := (Option.some.inj (Tryd.func3.symm.trans hfn)).symm
  refine ⟨by kernel_rfl, fun j t ht => ?_⟩
  rw [Tryd.params3] at ht
  have hm := Array.mem_of_getElem? ht
  simp at hm
  subst hm
  exact (show Tryd.prog.wantsStandIn 25 = false by kernel_rfl)

theorem proved : Rows.FnExactDbOkCardSaid :=
  Claim7.holds_tied_plain_at .later [] _ _ _ _ said (fun _ h => by cases h) (by kernel_rfl) (fun _ h => by cases h) fnExactDbOk_row_tie rfl ⟨rfl, rfl⟩ (by kernel_rfl) rfl plain (by kernel_rfl)
#print axioms proved
end Go.Proofs.YtmhmlkdoaojimapDoor.fnExactDbOk
