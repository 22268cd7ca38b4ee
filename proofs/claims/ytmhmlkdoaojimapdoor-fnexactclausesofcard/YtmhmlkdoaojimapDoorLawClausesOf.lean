/- FnExactClausesOf answers true at every Db and text: the code's ClausesOf answers as the specification's, leaves the clauses and names as they were, and its answer owns its memory. No condition but what the row itself lays (the tables of internal/strconv and math/bits). -/
import Derived.Test.YtmhmlkdoaojimapDoorCards
import Derived.Test.YtmhmlkdoaojimapDoorTie
import Derived.Test.YtmhmlkdoaojimapDoorMrg10
import Derived.Test.YtmhmlkdoaojimapDoorMrg21
import Derived.Test.YtmhmlkdoaojimapDoorClsRow
import Derived.Test.YtmhmlkdoaojimapDoorClsSz
import Derived.Test.YtmhmlkdoaojimapDoorDbFrM
import Derived.Test.YtmhmlkdoaojimapDoorClsHeld
import Derived.Test.YtmhmlkdoaojimapDoorMrg19
import Derived.Deep.RegionWith
import Derived.Deep.DeepCutAuto
import Derived.Carry
import Derived.ChangeOld
import Derived.ChangeMaps
import Derived.OpenShut
import Derived.ShutString
import Derived.Below
import Derived.Deep.DeepHandedRow
import Derived.Lib.LaidTab
import Derived.Stop.LaidErr
namespace Go.Proofs.YtmhmlkdoaojimapDoor.fnExactClausesOf
open Go.ChangeShapes Go.WideShapes Go.ChangeAt Go.RowKit
open Go.ChangeMaps (open_string shut_string)

abbrev PowW (w : World) : Prop := Lib.TabIs Tryd.prog w "internal/strconv.uint64pow10" .u64 Lib.pow10Tab
abbrev OwnR (w : World) (R : List Cla) (v : Value) (F : List Nat) : Prop := OwnClS 57 46 w R v F

set_option maxHeartbeats 8000000 in
set_option maxRecDepth 20000 in
theorem walk (cs : List Cla) (xs : List ByteArray) (nm : ByteArray) (_ : nm.size ≤ maxLen) (w : World) (c0 c1 : Value) (i1 : ClsIn w cs c0) (i2 : SsIn w xs c1) (hT : PowW w) :
    Calls Tryd.prog 4 #[.agg #[c0, c1], .string nm] w fun e w' => e = .returned (.bool true) ∧ Below w.heap.size w w' := by
  obtain ⟨W, hW⟩ : ∃ W, W = w.alloc (.cells #[c0, c1] 25) := ⟨_, rfl⟩
  have bW : Below w.heap.size w W := by rw [hW]; exact (Below.refl _ _).alloc (Nat.le_refl _) _
  have q1 : W.heap[w.heap.size]? = some (.cells #[c0, c1] 25 (0, 0)) := by rw [hW]; exact heap_alloc_new w _
  have HARG : Hid (∀ w', Below W.heap.size W w' → ClsIn w' cs c0 ∧ SsIn w' xs c1 ∧ w'.cell? ⟨w.heap.size, 0, none⟩ = some c0 ∧ w'.cell? ⟨w.heap.size, 1, none⟩ = some c1) := fun w' hb => by
    have hq := (hb.block _ (Array.getElem?_eq_some_iff.1 q1).1).trans q1
    exact ⟨(i1.keep bW).keep hb, (i2.keep bW).keep hb, blk_cell (i := 0) hq (by simp), blk_cell (i := 1) hq (by simp)⟩
  have HTB : Hid (∀ V, Below W.heap.size W V → PowW V) := fun V hb => pow_keep hT (bW.trans (hb.mono bW.size))
  have HSZ := sz_db cs xs W c0 c1 1048576 (i1.keep bW) (i2.keep bW) (Nat.le_refl _)
  have HBW : Hid (Below w.heap.size w W) := bW
  obtain ⟨a2, p2, rfl, -⟩ := i2
  obtain ⟨a1, p1, rfl, -⟩ := i1
  clear q1 bW hT
  by_cases hg : 1048576 < nm.size
  · go_enter Tryd.func4, Tryd.ntmps4
    go_wp2
    go_ret
    rw [← hW]
    exact ⟨rfl, HBW.out⟩
  have hg' : ¬ (1048576 : Int) < (nm.size : Int) := by omega
  by_cases hwt : dbWt cs xs ≤ 1048576
  · rw [show szR (dbWt cs xs) 1048576 = ((1048576 - dbWt cs xs : Nat) : Int) from if_pos hwt, hW] at HSZ
    replace HSZ : Hid _ := HSZ
    have hl : ¬ ((1048576 - dbWt cs xs : Nat) : Int) < 0 := by omega
    generalize ((1048576 - dbWt cs xs : Nat) : Int) = L1 at *
    have hw1 : cs.length + claWts cs ≤ 1048576 := by unfold dbWt at hwt; omega
    have hw2 : xs.length + strWts xs ≤ 1048576 := by unfold dbWt at hwt; omega
    have hsz : ∀ x ∈ xs, x.size ≤ maxLen := fun x hx => by have := strWt_le hx; unfold maxLen; omega
    have HTO : Hid (∀ w1 c0 c1, ClsIn w1 cs c0 → SsIn w1 xs c1 → Calls Tryd.prog 9 #[.agg #[c0, c1]] w1 fun e w' => ∃ d0 d1 F, e = .returned (.agg #[d0, d1]) ∧ DbOwn w' cs xs d0 d1 F ∧ (∀ x ∈ F, w1.heap.size ≤ x) ∧ Below w1.heap.size w1 w') := fun w1 c0 c1 h1 h2 => to_dbO cs xs w1 c0 c1 h1 h2 hw1 (by omega)
    obtain ⟨R, hR⟩ : ∃ R, R = ofPred nm cs := ⟨_, rfl⟩
    have hRw := ofPred_wts nm cs
    have hns := claNs_le (ofPred nm cs)
    rw [← hR] at hRw hns
    have HSP : Hid (∀ w1 c0 c1 F, DbOwn w1 cs xs c0 c1 F → Calls Tryd.prog 12 #[.agg #[c0, c1], .string nm] w1 fun e w' => ∃ v F, e = .returned v ∧ OwnR w' R v F ∧ (∀ x ∈ F, w1.heap.size ≤ x) ∧ F.Nodup ∧ Below w1.heap.size w1 w') := fun w1 c0 c1 F h => by
      obtain ⟨a1, a2, _⟩ := h.args hsz
      obtain ⟨_, _, b, l, k, _, e⟩ := h.shape
      rw [hR]
      exact s_clausesOf cs nm w1 c0 c1 a1 hw1 ⟨b, l, k, e⟩
    have HIM : Hid (∀ w1 c0 c1 F, DbOwn w1 cs xs c0 c1 F → Below W.heap.size W w1 → Calls Tryd.prog 13 #[.agg #[c0, c1], .string nm] w1 fun e w' => ∃ v F, e = .returned v ∧ OwnR w' R v F ∧ (∀ x ∈ F, w1.heap.size ≤ x) ∧ F.Nodup ∧ Below w1.heap.size w1 w') := fun w1 c0 c1 F h hb => by
      obtain ⟨a1, a2, F0, a3, a4⟩ := h.args hsz
      obtain ⟨_, _, b, l, k, _, e⟩ := h.shape
      rw [hR]
      exact i_clausesOf cs nm w1 c0 c1 F0 a3 a4 hw1 (HTB.out w1 hb) ⟨b, l, k, e⟩
    have HEX : Hid (∀ w1 c0 c1 d0 d1 F G, DbOwn w1 cs xs c0 c1 F → DbOwn w1 cs xs d0 d1 G → Calls Tryd.prog 11 #[.agg #[c0, c1], .agg #[d0, d1]] w1 fun e w' => e = .returned (.bool true) ∧ Below w1.heap.size w1 w') := fun w1 c0 c1 d0 d1 F G h1 h2 => eq_dbO cs xs w1 c0 c1 d0 d1 F G h1 h2 (by omega)
    have hnc := claNs_le cs
    have HMX : Hid (∀ w1 c0 c1 F, DbOwn w1 cs xs c0 c1 F → Calls Tryd.prog 15 #[.agg #[c0, c1], .int .i64 1] w1 fun e w' => ∃ n : Nat, e = .returned (.int .i64 (n : Int)) ∧ Out F w1 w') := fun w1 c0 c1 F h => Calls.mono (mark_dbO cs xs w1 c0 c1 F h (by omega) (by omega)) fun e w' h => ⟨_, h.1, h.2.2⟩
    obtain ⟨N, hN⟩ : ∃ N : Nat, N = 1 + claNs R := ⟨_, rfl⟩
    have HEQ : Hid (∀ w1 v u, ClsIn w1 R v → ClsIn w1 R u → Calls Tryd.prog 14 #[v, u] w1 fun e w' => e = .returned (.bool true) ∧ Below w1.heap.size w1 w') := fun w1 v u h1 h2 => eq_clauses R w1 v u h1 h2
    have HMR : Hid (∀ w1 v F, OwnR w1 R v F → F.Nodup → Calls Tryd.prog 16 #[v, .int .i64 1] w1 fun e w' => e = .returned (.int .i64 (N : Int)) ∧ OwnClS 57 46 w' (markCs R 1) v F ∧ Out F w1 w') := fun w1 v F h1 h2 => by rw [hN]; exact mark_clauses R w1 v F 1 h1 h2 (by omega) (by omega)
    have HHD : Hid (∀ w1 v, ClsIn w1 (markCs R 1) v → Calls Tryd.prog 17 #[v, .int .i64 1] w1 fun e w' => e = .returned (.int .i64 (N : Int)) ∧ Below w1.heap.size w1 w') := fun w1 v h => by rw [hN]; exact held_clauses R w1 v 1 h (by omega) (by omega)
    have hN0 : ¬ ((N : Nat) : Int) < 0 := by omega
    clear hwt hw1 hw2 hsz hg hR hRw hns hnc hN
    go_enter Tryd.func4, Tryd.ntmps4
    go_upto_region 7 with (go_at_call 7; refine (Calls.mono HSZ.out ?_); rintro e w1 ⟨rfl, hb⟩; rw [← hW] at hb; have HB : Hid (Below W.heap.size W w1) := hb; clear hb)
    -- w0
    clear hg'
    obtain ⟨g1, g2, y0, y1⟩ := HARG.out w1 HB.out
    have HC1 : Hid _ := HTO.out w1 _ _ g1 g2
    clear g1 g2 hW HSZ hl
    go_upto_region 8 with (first
      | (go_at_call 9; refine (Calls.mono HC1.out ?_); rintro e w2 ⟨d0, d1, F1, rfl, o1, _, hb⟩; have HB2 : Hid (Below W.heap.size W w2) := HB.out.trans (hb.mono HB.out.size); have HC2 : Hid _ := HSP.out w2 _ _ _ o1; clear o1 hb)
      | (go_at_call 12; refine (Calls.mono HC2.out ?_); rintro e w3 ⟨v3, F3, rfl, o3, _, _, hb⟩; obtain ⟨a3, p3, rfl⟩ := ownClS_shape o3; have T3 : Hid (ClsIn w3 R (.slice a3 R.length p3)) := o3.toIn; have HB3 : Hid (Below W.heap.size W w3) := HB2.out.trans (hb.mono HB2.out.size); clear o3 hb))
    clear y0 y1 HC1 HC2
    -- x0
    obtain ⟨g1, g2, y0, y1⟩ := HARG.out w3 HB3.out
    have HC7 : Hid _ := HTO.out w3 _ _ g1 g2
    clear g1 g2
    go_upto_region 9 with (go_at_call 9; refine (Calls.mono HC7.out ?_); rintro e w4 ⟨d7, e7, F7, rfl, o7, f7, b7⟩; obtain ⟨a7, p7, b77, l7, m7, rfl, rfl⟩ := o7.shape; have O7 : Hid (DbOwn w4 cs xs (.slice a7 cs.length p7) (.slice b77 l7 m7) F7) := o7; have N7 : Hid (∀ x ∈ F7, w3.heap.size ≤ x) := f7; have B7 : Hid (Below w3.heap.size w3 w4) := b7; clear o7 f7 b7)
    clear y0 y1
    obtain ⟨W4, hW4⟩ : ∃ W4, W4 = w4.alloc (.cells #[.slice a7 cs.length p7, .slice b77 l7 m7] 30) := ⟨_, rfl⟩
    rw [← hW4]
    have bW4 : Below w4.heap.size w4 W4 := by rw [hW4]; exact (Below.refl _ _).alloc (Nat.le_refl _) _
    have k7b : W4.heap[w4.heap.size]? = some (.cells #[.slice a7 cs.length p7, .slice b77 l7 m7] 30 (0, 0)) := by rw [hW4]; exact heap_alloc_new _ _
    have HB4 : Hid (Below w3.heap.size w3 W4) := B7.out.trans (bW4.mono B7.out.size)
    have HBW4 : Hid (Below W.heap.size W W4) := HB3.out.trans (HB4.out.mono HB3.out.size)
    have O7' : Hid (DbOwn W4 cs xs (.slice a7 cs.length p7) (.slice b77 l7 m7) F7) := O7.out.below bW4
    have L7 : Hid (∀ x ∈ F7, x < w4.heap.size) := O7.out.lt
    have sW4 : W4.heap.size = w4.heap.size + 1 := by rw [hW4]; simp
    have hs34 : w3.heap.size ≤ w4.heap.size := B7.out.size
    obtain ⟨q7, hp7⟩ : ∃ q7, q7 = w4.heap.size := ⟨_, rfl⟩
    rw [← hp7] at k7b sW4 L7 hs34 ⊢
    have K7 : Hid (W4.heap[q7]? = some (.cells #[.slice a7 cs.length p7, .slice b77 l7 m7] 30 (0, 0))) := k7b
    clear hW4 bW4 k7b O7 B7 hp7 HC7
    -- g0
    have e0 := blk_cell (i := 0) K7.out (by simp)
    have e1 := blk_cell (i := 1) K7.out (by simp)
    have HC9 : Hid _ := HIM.out W4 _ _ F7 O7'.out HBW4.out
    go_upto_region 10 with (go_at_call 13; refine (Calls.mono HC9.out ?_); rintro e w6 ⟨v9, F9, rfl, o9, f9, nd9, b9⟩; obtain ⟨a9, p9, rfl⟩ := ownClS_shape o9; have O9 : Hid (OwnR w6 R (.slice a9 R.length p9) F9) := o9; have N9 : Hid ((∀ x ∈ F9, W4.heap.size ≤ x) ∧ F9.Nodup) := ⟨f9, nd9⟩; have B9 : Hid (Below W4.heap.size W4 w6) := b9; clear o9 f9 nd9 b9)
    clear e0 e1 HC9
    have O7b : Hid (DbOwn w6 cs xs (.slice a7 cs.length p7) (.slice b77 l7 m7) F7) := O7'.out.below B9.out
    have K7b : Hid (w6.heap[q7]? = some (.cells #[.slice a7 cs.length p7, .slice b77 l7 m7] 30 (0, 0))) := (B9.out.block q7 (by omega)).trans K7.out
    have HB36 : Hid (Below w3.heap.size w3 w6) := HB4.out.trans (B9.out.mono HB4.out.size)
    have HALL : Hid (∀ w', Out (F7 ++ F9) w6 w' → Below w3.heap.size w3 w' ∧ (w'.cell? ⟨q7, 0, none⟩ = some (.slice a7 cs.length p7) ∧ w'.cell? ⟨q7, 1, none⟩ = some (.slice b77 l7 m7))) := fun w' hu => by
      have h7 : ∀ x ∈ F7, w3.heap.size ≤ x ∧ x < q7 := fun x hx => ⟨N7.out x hx, L7.out x hx⟩
      have hb : Below w3.heap.size w3 w' := HB36.out.trans (hu.below (fun x hx => by
        rcases List.mem_append.1 hx with hx | hx
        · exact (h7 x hx).1
        · have := N9.out.1 x hx; omega) HB36.out.size)
      have hn7 : q7 ∉ F7 ++ F9 := fun hx => by
        rcases List.mem_append.1 hx with hx | hx
        · have := (h7 _ hx).2; omega
        · have := N9.out.1 _ hx; omega
      have hq7 := (hu.block q7 (by have := B9.out.size; omega) hn7).trans K7b.out
      exact ⟨hb, blk_cell (i := 0) hq7 (by simp), blk_cell (i := 1) hq7 (by simp)⟩
    have D79 : Hid (∀ x ∈ F9, x ∉ F7) := fun x hx h => by have := N9.out.1 x hx; have := L7.out x h; omega
    have HB3W : Hid (∀ w', Below w3.heap.size w3 w' → Below W.heap.size W w') := fun w' h => HB3.out.trans (h.mono HB3.out.size)
    clear K7b K7 L7 HB36 HB4 hs34 sW4 O7' HBW4
    -- g0 is w0
    have HE : Hid _ := HEQ.out w6 _ _ O9.out.toIn (T3.out.keep (HALL.out w6 (Out.refl _ _)).1)
    go_upto_region 12 with (go_at_call 14; refine (Calls.mono HE.out ?_); rintro e w7 ⟨rfl, b7⟩; have U7 : Hid (Below w6.heap.size w6 w7) := b7; clear b7)
    clear HE
    -- x0 is as it was
    refine wp_region_facts 4 (fun i v _ w' => match i with
      | 0 => v = .agg #[.slice a7 cs.length p7, .slice b77 l7 m7]
      | 1 => v = .agg #[.slice a1 cs.length p1, .slice a2 xs.length p2]
      | 2 => ∃ a13 p13 b13 l13 m13 F13, v = .agg #[.slice a13 cs.length p13, .slice b13 l13 m13] ∧ DbOwn w' cs xs (.slice a13 cs.length p13) (.slice b13 l13 m13) F13
      | _ => v = .bool true) (by kernel_rfl) (by kernel_rfl) 77 rfl (by kernel_rfl) ?_ ?_ ?_
    · intro i v S w w' hi h hb
      match i, hi, h with
      | 0, _, h => exact h
      | 1, _, h => exact h
      | 2, _, ⟨a13, p13, b13, l13, m13, F13, h1, h2⟩ => exact ⟨a13, p13, b13, l13, m13, F13, h1, h2.below hb⟩
      | 3, _, h => exact h
    · intro i o hi ho a w' hb hfr hdep
      have hb6 : Below w6.heap.size w6 w' := U7.out.trans (hb.mono U7.out.size)
      obtain ⟨hb3, m0, m1⟩ := HALL.out w' (Out.of_below hb6)
      obtain ⟨g1, g2, y0, y1⟩ := HARG.out w' (HB3W.out w' hb3)
      have u2 : a.tmps.getD 2 undef = .pointer (some ⟨w.heap.size, 0, none⟩) := hfr 2 (by decide)
      have u7 : a.tmps.getD 7 undef = .pointer (some ⟨q7, 0, none⟩) := hfr 7 (by decide)
      match i, hi with
      | 0, _ =>
        obtain rfl : _ = o := by simpa using ho
        refine fact_value (w' := w') (v := .agg #[.slice a7 cs.length p7, .slice b77 l7 m7]) ?_ (Below.refl _ _) ⟨[], rfl, by simp⟩
        clear g1 g2
        simp only [execOp, Act.eval, u7]
        go_simp
      | 1, _ =>
        obtain rfl : _ = o := by simpa using ho
        refine fact_value (w' := w') (v := .agg #[.slice a1 cs.length p1, .slice a2 xs.length p2]) ?_ (Below.refl _ _) ⟨[], rfl, by simp⟩
        clear g1 g2
        simp only [execOp, Act.eval, u2]
        go_simp
      | 2, _ =>
        obtain rfl : _ = o := by simpa using ho
        obtain ⟨_, h0⟩ : ∃ _ : List Nat, a.tmps.getD 35 undef = .agg #[.slice a1 cs.length p1, .slice a2 xs.length p2] := hdep 1 (by kernel_rfl)
        refine fact_call rfl Tryd.func9 (by kernel_rfl) (by kernel_rfl) (args := #[.agg #[.slice a1 cs.length p1, .slice a2 xs.length p2]]) ?_ ?_
        · simp [Act.eval, h0]
        · refine Calls.mono (HTO.out w' _ _ g1 g2) ?_
          rintro e w4 ⟨d0, d1, F, rfl, o1, _, hb4⟩
          obtain ⟨a13, p13, b13, l13, m13, rfl, rfl⟩ := o1.shape
          exact ⟨_, rfl, hb4, [], ⟨_, _, _, _, _, _, rfl, o1⟩, by simp⟩
      | 3, _ =>
        obtain rfl : _ = o := by simpa using ho
        obtain ⟨_, h0⟩ : ∃ _ : List Nat, a.tmps.getD 34 undef = .agg #[.slice a7 cs.length p7, .slice b77 l7 m7] := hdep 0 (by kernel_rfl)
        obtain ⟨_, a13, p13, b13, l13, m13, F13, h1, h2⟩ : ∃ _ : List Nat, ∃ a13 p13 b13 l13 m13 F13, a.tmps.getD 36 undef = .agg #[.slice a13 cs.length p13, .slice b13 l13 m13] ∧ DbOwn w' cs xs (.slice a13 cs.length p13) (.slice b13 l13 m13) F13 := hdep 2 (by kernel_rfl)
        refine fact_call rfl Tryd.func11 (by kernel_rfl) (by kernel_rfl) (args := #[.agg #[.slice a7 cs.length p7, .slice b77 l7 m7], .agg #[.slice a13 cs.length p13, .slice b13 l13 m13]]) ?_ ?_
        · simp [Act.eval, h0]; simpa using h1
        · refine Calls.mono (HEX.out w' _ _ _ _ _ _ (O7b.out.below hb6) h2) ?_
          rintro e w4 ⟨rfl, hb4⟩
          exact ⟨_, rfl, hb4, [], rfl, by simp⟩
    intro vals S w9 hb hf _
    have h3 : vals 3 = .bool true := (hf 3 (by omega)).1
    have U9 : Hid (Below w6.heap.size w6 w9) := U7.out.trans (hb.mono U7.out.size)
    simp only [putN, List.getElem?_toArray, List.getElem?_cons_zero, List.getElem?_cons_succ, Option.bind_some, List.drop_succ_cons, List.drop_zero, h3]
    generalize vals 0 = v31
    generalize vals 1 = v32
    generalize vals 2 = v33
    clear hf h3 hb U7
    go_upto_region 15 with fail
    -- what is written into x0 is not in g0
    obtain ⟨_, m0, m1⟩ := HALL.out w9 (Out.of_below U9.out)
    have HK : Hid _ := HMX.out w9 _ _ _ (O7b.out.below U9.out)
    go_upto_region 16 with (go_at_call 15; refine (Calls.mono HK.out ?_); rintro e w10 ⟨n1, rfl, u⟩; have U10 : Hid (Out F7 w9 w10) := u; clear u)
    clear m0 m1 HK
    have hn1 : ¬ ((n1 : Nat) : Int) < 0 := by omega
    have V10 : Hid (Out (F7 ++ F9) w6 w10) := (Out.of_below U9.out).trans (U10.out.mono fun x hx => List.mem_append_left _ hx)
    have O9d : Hid (OwnR w10 R (.slice a9 R.length p9) F9) := OwnClS.keep O9.out fun x hx => by
      have hl := O9.out.lt x hx
      exact (U10.out.block x (Nat.lt_of_lt_of_le hl U9.out.size) (D79.out x hx)).trans (U9.out.block x hl)
    have HE : Hid _ := HEQ.out w10 _ _ O9d.out.toIn (T3.out.keep (HALL.out w10 V10.out).1)
    go_upto_region 19 with (go_at_call 14; refine (Calls.mono HE.out ?_); rintro e w12 ⟨rfl, b12⟩; have U12 : Hid (Below w10.heap.size w10 w12) := b12; clear b12)
    clear HE hn1
    -- g0 owns its memory
    have V12 : Hid (Out (F7 ++ F9) w6 w12) := V10.out.trans (Out.of_below U12.out)
    have HK : Hid _ := HMR.out w12 _ F9 (OwnClS.keep O9d.out fun x hx => U12.out.block x (O9d.out.lt x hx)) N9.out.2
    go_upto_region 21 with (go_at_call 16; refine (Calls.mono HK.out ?_); rintro e w13 ⟨rfl, t13, u⟩; have U13 : Hid (Out F9 w12 w13) := u; have T13 : Hid (ClsIn w13 (markCs R 1) (.slice a9 R.length p9)) := t13.toIn; clear u t13)
    clear HK O9d
    have V13 : Hid (Out (F7 ++ F9) w6 w13) := V12.out.trans (U13.out.mono fun f hf => List.mem_append_right _ hf)
    have HK : Hid _ := HHD.out w13 _ T13.out
    go_upto_region 26 with (go_at_call 17; refine (Calls.mono HK.out ?_); rintro e w14 ⟨rfl, b14⟩; have U14 : Hid (Below w13.heap.size w13 w14) := b14; clear b14)
    clear HK
    have V14 : Hid (Out (F7 ++ F9) w6 w14) := V13.out.trans (Out.of_below U14.out)
    have B314 : Hid (Below w3.heap.size w3 w14) := (HALL.out w14 V14.out).1
    -- once more
    have BW14 : Hid (Below W.heap.size W w14) := HB3W.out w14 B314.out
    obtain ⟨g1, g2, y0, y1⟩ := HARG.out w14 BW14.out
    have HC1 : Hid _ := HTO.out w14 _ _ g1 g2
    clear g1 g2
    go_upto_region 27 with (first
      | (go_at_call 9; refine (Calls.mono HC1.out ?_); rintro e w15 ⟨d0, d1, F1, rfl, o1, _, hb⟩; have B15 : Hid (Below w14.heap.size w14 w15) := hb; have HC2 : Hid _ := HIM.out w15 _ _ F1 o1 (BW14.out.trans (hb.mono BW14.out.size)); clear o1 hb)
      | (go_at_call 13; refine (Calls.mono HC2.out ?_); rintro e w16 ⟨v16, F16, rfl, o3, _, _, hb⟩; obtain ⟨a16, p16, rfl⟩ := ownClS_shape o3; have T16 : Hid (ClsIn w16 R (.slice a16 R.length p16)) := o3.toIn; have B16 : Hid (Below w14.heap.size w14 w16) := B15.out.trans (hb.mono B15.out.size); clear o3 hb))
    clear y0 y1 HC1 HC2
    have V16 : Hid (Out (F7 ++ F9) w6 w16) := V14.out.trans (Out.of_below B16.out)
    have B13 : Hid (Below w13.heap.size w13 w16) := U14.out.trans (B16.out.mono U14.out.size)
    have HE : Hid _ := HEQ.out w16 _ _ T16.out (T3.out.keep (HALL.out w16 V16.out).1)
    go_upto_region 29 with (go_at_call 14; refine (Calls.mono HE.out ?_); rintro e w17 ⟨rfl, b17⟩; have U17 : Hid (Below w16.heap.size w16 w17) := b17; clear b17)
    clear HE
    have V17 : Hid (Out (F7 ++ F9) w6 w17) := V16.out.trans (Out.of_below U17.out)
    have B18 : Hid (Below w13.heap.size w13 w17) := B13.out.trans (U17.out.mono B13.out.size)
    have HK : Hid _ := HHD.out w17 _ (T13.out.keep B18.out)
    go_wp2_with (go_at_call 17; refine (Calls.mono HK.out ?_); rintro e w18 ⟨rfl, b18⟩; have U18 : Hid (Below w17.heap.size w17 w18) := b18; clear b18)
    have V18 : Hid (Out (F7 ++ F9) w6 w18) := V17.out.trans (Out.of_below U18.out)
    go_ret
    refine ⟨rfl, ?_⟩
    have h1 := (HALL.out w18 V18.out).1
    exact HBW.out.trans ((HB3W.out w18 h1).mono HBW.out.size)
  · rw [show szR (dbWt cs xs) 1048576 = -1 from if_neg hwt, hW] at HSZ
    replace HSZ : Hid _ := HSZ
    clear hwt hg
    go_enter Tryd.func4, Tryd.ntmps4
    go_wp2_with (go_at_call 7; refine (Calls.mono HSZ.out ?_); rintro e w1 ⟨rfl, hb⟩; rw [← hW] at hb; have HB : Hid (Below w.heap.size w w1) := HBW.out.trans (hb.mono HBW.out.size); clear hb)
    go_ret
    exact ⟨rfl, HB.out⟩

theorem own : ownKnob Tryd.prog.godebug = none := by kernel_rfl
theorem gTab : Tryd.prog.globalNamed "internal/strconv.uint64pow10" = some 0 := by kernel_rfl
theorem gTabType : (Tryd.prog.globals[0]?).map (·.type) = some 163 := by kernel_rfl
theorem cellsT : Tryd.prog.cellsOf 163 = 20 := by kernel_rfl
theorem cellsE : Tryd.prog.cellsOf 156 = 1 := by kernel_rfl
theorem table {W : World} (h : laidMetH Tryd.prog Rows.fnExactClausesOfRow.laid W) : Lib.TabIs Tryd.prog W "internal/strconv.uint64pow10" .u64 Lib.pow10Tab :=
  Lib.tabIs_of_head (rest := []) gTab gTabType Tryd.underlying163 Tryd.underlying156 cellsE cellsT (laidMet.tail (laidMet.tail h))

/-- the cells that a table lays -/
def litCells : DataW Unit → Array Value
  | .agg parts => (parts.flatMap fun
    | .lit (.int k z) => [Value.int k z]
    | .agg qs => qs.map fun
      | .lit (.int k z) => Value.int k z
      | _ => Value.bool false
    | _ => [Value.bool false]).toArray
  | _ => #[]
def setTab (cs : Array Value) : Obj → Obj
  | .cells _ t frozen => .cells cs t frozen
  | o => o

set_option maxRecDepth 20000 in
theorem contract (H : Type) (enc : TypeId × Value → H) (W : World) (base : Nat) (args : Array Value) (ds gs : List (DataW H)) (before : List MemPlace)
    (hval : ∀ (j : Nat) t v, Tryd.f4.params[j]? = some t → args[j]? = some v → Value.okWide Tryd.prog W .any base t v)
    (hW : DataW.Whole enc Tryd.prog Tryd.f4.params.toList Rows.fnExactClausesOfSpec.vars false W args.toList ds gs before) (hL : laidMetH Tryd.prog Rows.fnExactClausesOfRow.laid W) :
    Calls Tryd.prog 4 args W fun e W' => ∃ v, e = .returned v ∧ Rows.fnExactClausesOfSpec.post enc Tryd.prog Tryd.f4 false true false false W args v W' := by
  have ht : PowW W := table hL
  have hW' := hW
  have hlt := hW.lt
  obtain ⟨p, q, hA0, hV, rfl, hfz, hnd⟩ := hW
  have hA : DataW.TrodAll enc Tryd.prog W 0 (fun _ => true) true Tryd.f4.params.toList args.toList ds p := hA0
  rw [Tryd.params4] at hA hval
  obtain ⟨v0, vs0, d0, ds0, p0, q0, hargs, rfl, rfl, h0, r0⟩ := trodAll_cons hA
  obtain ⟨v1, vs1, d1, ds1, p1, q1, rfl, rfl, rfl, h1, r1⟩ := trodAll_cons r0
  obtain ⟨rfl, rfl, rfl⟩ := trodAll_nil r1
  obtain rfl : args = #[v0, v1] := by cases args; simp_all
  obtain ⟨rfl, rfl⟩ := trodVars_none hV
  simp only [List.append_nil] at hW'
  obtain ⟨s1, rfl, rfl, rfl, m1⟩ := open_string Tryd.underlying9 (hval 1 9 v1 rfl rfl) h1
  obtain ⟨cs0, xs0, c0, e0, rfl, i0, k0⟩ := db_split (hval 0 25 v0 rfl rfl) h0
  clear hA0
  refine (walk cs0 xs0 s1 m1 W _ _ i0 k0 ht).mono fun e W' ⟨he, bel⟩ => ?_
  subst he
  exact ⟨_, rfl, _, _, _, [], _, [], hW', trodAll_mk1 (shut_bool Tryd.underlying4 _), (trodAll_cons_mk (Below.trod laidOutT readsDb rowDb h0 bel (fun x hx => hlt x (by simp [hx]))) (trodAll_cons_mk (shut_string Tryd.underlying9 m1) trodAll_mk0)), rfl, bel.frame _, fun h => by cases h⟩

/-- a world for the witness: the settled one, the tables holding what their initialisers lay -/
noncomputable def laidWorld (os : Os) : World :=
  { World.holding Tryd.prog os ⟨#[], #[], []⟩ with heap := (((World.holding Tryd.prog os ⟨#[], #[], []⟩).heap.modify 1 (setTab (litCells Rows.laid_math_bits_deBruijn32tab))).modify 2 (setTab (litCells Rows.laid_math_bits_deBruijn64tab))).modify 0 (setTab (litCells Rows.laid_internal_strconv_uint64pow10)) }
set_option maxRecDepth 20000 in
theorem laid_met (os : Os) : laidMet Tryd.prog Rows.fnExactClausesOfRow.laid ((laidWorld os).forCall (fun _ _ => 0) ⟨#[], #[.agg #[.slice none 0 0, .slice none 0 0], .string .empty], []⟩).memory :=
  laidMet_of_run' 8 (by kernel_rfl) (by kernel_rfl)
set_option maxRecDepth 20000 in
theorem reads (os : Os) {H : Type} (enc : TypeId × Value → H) : ∃ places, DataW.whole enc Tryd.prog ((laidWorld os).forCall (fun _ _ => 0) ⟨#[], #[.agg #[.slice none 0 0, .slice none 0 0], .string .empty], []⟩).memory Tryd.f4.params.toList Rows.fnExactClausesOfSpec.vars false (#[Value.agg #[.slice none 0 0, .slice none 0 0], .string .empty] : Array Value).toList 8 = some ([.agg [.nil, .nil], .lit (.string [])], [], places) :=
  ⟨[], by kernel_rfl⟩

set_option maxRecDepth 100000 in
theorem lifted (os : Os) (started : os.Started) (H : Type) (enc : TypeId × Value → H) (F : Stop.Interp) :
    ReturnsInHanded {} Tryd.checked os 4 .any ((OpenSpec.ofChange Rows.fnExactClausesOfSpec).preRow enc Tryd.prog Tryd.f4 Rows.fnExactClausesOfRow.domain false Rows.fnExactClausesOfRow.laid) (((OpenSpec.ofChange Rows.fnExactClausesOfSpec).at F).post enc Tryd.prog Tryd.f4 false true false false) := by
  obtain ⟨places, hx⟩ := reads os enc
  refine returnsInHanded_of_row (C := Tryd.checked) (s := OpenSpec.ofChange Rows.fnExactClausesOfSpec) own started (by kernel_rfl) Tryd.func4
    (witness_row_at (enc := enc) (C := Tryd.checked) false (laidWorld os) #[.agg #[.slice none 0 0, .slice none 0 0], .string .empty] rfl (by kernel_rfl) (by kernel_rfl) (by kernel_rfl)
      (OpenSpec.preRow_of_cond 8 hx (by kernel_rfl) (fun k hk => by cases hk) (by kernel_rfl) (laid_met os))) ?_
  intro W base args ds gs before hval hW _ _ _ hL _ _
  exact contract H enc W base args ds gs before hval hW hL

theorem said : Rows.FnExactClausesOfSaid :=
  OpenClaim.holds_of_cond 4 Tryd.f4 rfl rfl rfl rfl rfl rfl rfl ⟨rfl, rfl, rfl, rfl, rfl⟩ rfl rfl rfl rfl rfl (by kernel_rfl) Tryd.func4 (by kernel_rfl)
    (of_decide_eq_true (by kernel_rfl)) (by unfold Func.isWrapper; first | (rw [if_pos (by decide +kernel)]; kernel_rfl) | (rw [if_neg (by decide +kernel)]; exact ⟨rfl, rfl⟩))
    (fun os started H enc _ F => by rw [OpenClaim.pre_eq_preRow]; exact lifted os started H enc F)

theorem plain (f : FuncId) (fn : Func) (hf : Tryd.pinned.checked.prog.funcNamed "loop.example/g00469/laws.FnExactClausesOf" = some f) (hfn : Tryd.pinned.checked.prog.funcs[f]? = some fn) :
    true = Tryd.pinned.checked.prog.looks [] ∧ ∀ (j : Nat) t, fn.params[j]? = some t → Tryd.pinned.checked.prog.wantsStandIn t = false := by
  obtain rfl : f = 4 := Option.some.inj ((show Tryd.prog.funcNamed "loop.example/g00469/laws.FnExactClausesOf" = some 4 by kernel_rfl).symm.trans hf) |>.symm
  obtain rfl : fn = Tryd.f4 := (Option.some.inj (Tryd.func4.symm.trans hfn)).symm
  refine ⟨by kernel_rfl, fun j t ht => ?_⟩
  rw [Tryd.params4] at ht
  have hm := Array.mem_of_getElem? ht
  simp at hm
  rcases hm with rfl | rfl
  · exact (show Tryd.prog.wantsStandIn 25 = false by kernel_rfl)
  · exact (show Tryd.prog.wantsStandIn 9 = false by kernel_rfl)

theorem proved : Rows.FnExactClausesOfCardSaid :=
  Claim7.holds_tied_plain_at .later [] _ _ _ _ said (fun _ h => by cases h) (by kernel_rfl) (fun _ h => by cases h) fnExactClausesOf_row_tie rfl ⟨rfl, rfl⟩ (by kernel_rfl) rfl plain (by kernel_rfl)
#print axioms proved
end Go.Proofs.YtmhmlkdoaojimapDoor.fnExactClausesOf
