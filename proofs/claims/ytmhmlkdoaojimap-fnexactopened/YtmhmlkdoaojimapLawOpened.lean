/- FnExactOpened answers true at every Db and text: the code's Opened answers as the specification's, leaves the clauses and names as they were, and its answer owns its memory. No condition. -/
import Derived.Test.YtmhmlkdoaojimapMrg2
import Derived.Test.YtmhmlkdoaojimapMrg3
import Derived.Test.YtmhmlkdoaojimapMrg12
import Derived.Test.YtmhmlkdoaojimapMrg15
import Derived.Test.YtmhmlkdoaojimapOpnI
import Derived.Test.YtmhmlkdoaojimapMrg13
import Derived.Deep.RegionWith
import Derived.Deep.DeepCutAuto
import Derived.OpenShut
import Derived.ShutString
import Derived.ChangeOld
namespace Go.Proofs.Ytmhmlkdoaojimap.fnExactOpened
open Go.ChangeShapes Go.WideShapes Go.ChangeAt Go.RowKit
open Go.ChangeMaps (open_string shut_string)

theorem own : ownKnob Try.prog.godebug = none := by kernel_rfl

theorem dbOut_own {w w' : World} {cs : List Cla} {xs : List ByteArray} {e : Ending} (h : DbOut w cs xs e w') : ∃ d0 d1 F, e = .returned (.agg #[d0, d1]) ∧ DbOwn w' cs xs d0 d1 F ∧ (∀ x ∈ F, w.heap.size ≤ x) ∧ Below w.heap.size w w' := by
  obtain ⟨sl, F, k, g, rfl, o1, o2, o3, o4, o5, o6, o7⟩ := h
  refine ⟨_, _, _, rfl, dbOwn_of o1 o2 o4 o6, fun x hx => ?_, o7⟩
  rcases List.mem_append.1 hx with hx | hx
  · exact o3 x hx
  · obtain rfl : x = g := by simpa using hx
    exact o5

set_option maxHeartbeats 8000000 in
set_option maxRecDepth 20000 in
theorem walk (cs : List Cla) (xs : List ByteArray) (nm : ByteArray) (hnm : nm.size ≤ maxLen) (w : World) (c0 c1 : Value) (i1 : ClsIn w cs c0) (i2 : SsIn w xs c1) :
    Calls Try.prog 3 #[.agg #[c0, c1], .string nm] w fun e w' => e = .returned (.bool true) ∧ Below w.heap.size w w' := by
  unfold maxLen at hnm
  obtain ⟨W, hW⟩ : ∃ W, W = w.alloc (.cells #[c0, c1] 25) := ⟨_, rfl⟩
  have bW : Below w.heap.size w W := by rw [hW]; exact (Below.refl _ _).alloc (Nat.le_refl _) _
  have q1 : W.heap[w.heap.size]? = some (.cells #[c0, c1] 25 (0, 0)) := by rw [hW]; exact heap_alloc_new w _
  have HARG : Hid (∀ w', Below W.heap.size W w' → ClsIn w' cs c0 ∧ SsIn w' xs c1 ∧ w'.cell? ⟨w.heap.size, 0, none⟩ = some c0 ∧ w'.cell? ⟨w.heap.size, 1, none⟩ = some c1) := fun w' hb => by
    have hq := (hb.block _ (Array.getElem?_eq_some_iff.1 q1).1).trans q1
    exact ⟨(i1.keep bW).keep hb, (i2.keep bW).keep hb, blk_cell (i := 0) hq (by simp), blk_cell (i := 1) hq (by simp)⟩
  have HSZ := sz_db cs xs W c0 c1 1048576 (i1.keep bW) (i2.keep bW) (Nat.le_refl _)
  have HBW : Hid (Below w.heap.size w W) := bW
  obtain ⟨a2, p2, rfl, -⟩ := i2
  obtain ⟨a1, p1, rfl, -⟩ := i1
  clear q1 bW
  by_cases hg : 1048576 < nm.size
  · have HG : Hid (1048576 < nm.size) := hg
    go_enter Try.func3, Try.ntmps3
    go_wp2
    go_ret
    rw [← hW]
    exact ⟨rfl, HBW.out⟩
  have hg' : ¬ (1048576 : Int) < (nm.size : Int) := by omega
  by_cases hwt : dbWt cs xs ≤ 1048576
  · rw [show szR (dbWt cs xs) 1048576 = ((1048576 - dbWt cs xs : Nat) : Int) from if_pos hwt, hW] at HSZ
    replace HSZ : Hid _ := HSZ
    have hl : ¬ ((1048576 - dbWt cs xs : Nat) : Int) < 0 := by omega
    generalize ((1048576 - dbWt cs xs : Nat) : Int) = L1 at *
    have hw1 : cs.length + claWts cs ≤ 1048576 := by unfold dbWt at hwt; omega
    have hw2 : xs.length + strWts xs ≤ 1048576 := by unfold dbWt at hwt; omega
    have hsz : ∀ x ∈ xs, x.size ≤ maxLen := fun x hx => by have := strWt_le hx; unfold maxLen; omega
    obtain ⟨R, hR1, hR2⟩ : ∃ R : List ByteArray, (xs.length < 40 → nm ∉ xs → R = xs ++ [nm]) ∧ (¬ (xs.length < 40 ∧ nm ∉ xs) → R = xs) := by
      by_cases h9 : xs.length < 40 ∧ nm ∉ xs
      · exact ⟨xs ++ [nm], fun _ _ => rfl, fun h => absurd h9 h⟩
      · exact ⟨xs, fun h1 h2 => absurd ⟨h1, h2⟩ h9, fun _ => rfl⟩
    have hRl : R.length ≤ 1048577 := by
      by_cases h9 : xs.length < 40 ∧ nm ∉ xs
      · rw [hR1 h9.1 h9.2]; simp; omega
      · rw [hR2 h9]; omega
    have HTO : Hid (∀ w1 c0 c1, ClsIn w1 cs c0 → SsIn w1 xs c1 → Calls Try.prog 6 #[.agg #[c0, c1]] w1 fun e w' => ∃ d0 d1 F, e = .returned (.agg #[d0, d1]) ∧ DbOwn w' cs xs d0 d1 F ∧ (∀ x ∈ F, w1.heap.size ≤ x) ∧ Below w1.heap.size w1 w') := fun w1 c0 c1 h1 h2 => to_dbO cs xs w1 c0 c1 h1 h2 hw1 (by omega)
    have HSP : Hid (∀ w1 c0 c1 F, DbOwn w1 cs xs c0 c1 F → Calls Try.prog 5 #[.agg #[c0, c1], .string nm] w1 fun e w' => ∃ d0 d1 F, e = .returned (.agg #[d0, d1]) ∧ DbOwn w' cs R d0 d1 F ∧ (∀ x ∈ F, w1.heap.size ≤ x) ∧ Below w1.heap.size w1 w') := fun w1 c0 c1 F h => by
      obtain ⟨a1, a2, _⟩ := h.args hsz
      exact Calls.mono (s_opened cs xs nm w1 c0 c1 a1 a2 hw1 hw2 (by omega) R hR1 hR2) fun e w' h => dbOut_own h
    have HIM : Hid (∀ w1 c0 c1 F, DbOwn w1 cs xs c0 c1 F → Calls Try.prog 7 #[.agg #[c0, c1], .string nm] w1 fun e w' => ∃ d0 d1 F, e = .returned (.agg #[d0, d1]) ∧ DbOwn w' cs R d0 d1 F ∧ (∀ x ∈ F, w1.heap.size ≤ x) ∧ Below w1.heap.size w1 w') := fun w1 c0 c1 F h => by
      obtain ⟨a1, a2, F0, a3, a4⟩ := h.args hsz
      exact Calls.mono (i_opened cs xs nm w1 c0 c1 F0 a3 a4 a2 hw1 hw2 (by omega) R hR1 hR2) fun e w' h => dbOut_own h
    have HEQ : Hid (∀ w1 c0 c1 d0 d1 F G, DbOwn w1 cs R c0 c1 F → DbOwn w1 cs R d0 d1 G → Calls Try.prog 8 #[.agg #[c0, c1], .agg #[d0, d1]] w1 fun e w' => e = .returned (.bool true) ∧ Below w1.heap.size w1 w') := fun w1 c0 c1 d0 d1 F G h1 h2 => eq_dbO cs R w1 c0 c1 d0 d1 F G h1 h2 (by omega)
    have HEX : Hid (∀ w1 c0 c1 d0 d1 F G, DbOwn w1 cs xs c0 c1 F → DbOwn w1 cs xs d0 d1 G → Calls Try.prog 8 #[.agg #[c0, c1], .agg #[d0, d1]] w1 fun e w' => e = .returned (.bool true) ∧ Below w1.heap.size w1 w') := fun w1 c0 c1 d0 d1 F G h1 h2 => eq_dbO cs xs w1 c0 c1 d0 d1 F G h1 h2 (by omega)
    have hns := claNs_le cs
    have HMX : Hid (∀ w1 c0 c1 F, DbOwn w1 cs xs c0 c1 F → Calls Try.prog 9 #[.agg #[c0, c1], .int .i64 1] w1 fun e w' => ∃ n : Nat, e = .returned (.int .i64 (n : Int)) ∧ Out F w1 w') := fun w1 c0 c1 F h => Calls.mono (mark_dbO cs xs w1 c0 c1 F h (by omega) (by omega)) fun e w' h => ⟨_, h.1, h.2.2⟩
    obtain ⟨N, hN⟩ : ∃ N : Nat, N = 1 + claNs cs + R.length := ⟨_, rfl⟩
    have HMR : Hid (∀ w1 c0 c1 F, DbOwn w1 cs R c0 c1 F → Calls Try.prog 9 #[.agg #[c0, c1], .int .i64 1] w1 fun e w' => e = .returned (.int .i64 (N : Int)) ∧ DbMarked w' cs R.length c0 c1 ∧ Out F w1 w') := fun w1 c0 c1 F h => by rw [hN]; exact mark_dbO cs R w1 c0 c1 F h (by omega) (by omega)
    have HHD : Hid (∀ w1 c0 c1, DbMarked w1 cs R.length c0 c1 → Calls Try.prog 10 #[.agg #[c0, c1], .int .i64 1] w1 fun e w' => e = .returned (.int .i64 (N : Int)) ∧ Below w1.heap.size w1 w') := fun w1 c0 c1 h => by rw [hN]; exact held_dbO cs R.length w1 c0 c1 h (by omega) (by omega)
    have hN0 : ¬ ((N : Nat) : Int) < 0 := by omega
    clear hwt hw1 hw2 hsz hR1 hR2 hRl hns hN hg hnm
    go_enter Try.func3, Try.ntmps3
    go_upto_region 7 with (go_at_call 4; refine (Calls.mono HSZ.out ?_); rintro e w1 ⟨rfl, hb⟩; rw [← hW] at hb; have HB : Hid (Below W.heap.size W w1) := hb; clear hb)
    -- w0
    clear hg'
    obtain ⟨g1, g2, y0, y1⟩ := HARG.out w1 HB.out
    have HC1 : Hid _ := HTO.out w1 _ _ g1 g2
    clear g1 g2 hW HSZ hl
    go_upto_region 8 with (first
      | (go_at_call 6; refine (Calls.mono HC1.out ?_); rintro e w2 ⟨d0, d1, F1, rfl, o1, _, hb⟩; have HB2 : Hid (Below W.heap.size W w2) := HB.out.trans (hb.mono HB.out.size); have HC2 : Hid _ := HSP.out w2 _ _ _ o1; clear o1 hb)
      | (go_at_call 5; refine (Calls.mono HC2.out ?_); rintro e w3 ⟨d3, e3, F3, rfl, o3, _, hb⟩; obtain ⟨a3, p3, b3, l3, m3, rfl, rfl⟩ := o3.shape; have T3 : Hid (DbOwn w3 cs R (.slice a3 cs.length p3) (.slice b3 l3 m3) F3) := o3; have HB3 : Hid (Below W.heap.size W w3) := HB2.out.trans (hb.mono HB2.out.size); clear o3 hb))
    clear y0 y1 HC1 HC2
    obtain ⟨W3, hW3⟩ : ∃ W3, W3 = w3.alloc (.cells #[.slice a3 cs.length p3, .slice b3 l3 m3] 29) := ⟨_, rfl⟩
    rw [← hW3]
    have bW3 : Below w3.heap.size w3 W3 := by rw [hW3]; exact (Below.refl _ _).alloc (Nat.le_refl _) _
    have k6 : W3.heap[w3.heap.size]? = some (.cells #[.slice a3 cs.length p3, .slice b3 l3 m3] 29 (0, 0)) := by rw [hW3]; exact heap_alloc_new _ _
    have sW3 : W3.heap.size = w3.heap.size + 1 := by rw [hW3]; simp
    obtain ⟨p6, hp6⟩ : ∃ p6, p6 = w3.heap.size := ⟨_, rfl⟩
    have HBB : Hid (Below W.heap.size W W3) := HB3.out.trans (bW3.mono HB3.out.size)
    have t6 : DbOwn W3 cs R (.slice a3 cs.length p3) (.slice b3 l3 m3) F3 := T3.out.below bW3
    rw [← hp6] at k6 sW3 ⊢
    have H6 : Hid (∀ w', Below W3.heap.size W3 w' → w'.cell? ⟨p6, 0, none⟩ = some (.slice a3 cs.length p3) ∧ w'.cell? ⟨p6, 1, none⟩ = some (.slice b3 l3 m3) ∧ DbOwn w' cs R (.slice a3 cs.length p3) (.slice b3 l3 m3) F3) := fun w' hb => by
      have hq := (hb.block p6 (by omega)).trans k6
      exact ⟨blk_cell (i := 0) hq (by simp), blk_cell (i := 1) hq (by simp), t6.below hb⟩
    clear hW3 bW3 k6 sW3 hp6 t6 T3 HB3 HB2 HB
    -- x0
    obtain ⟨g1, g2, y0, y1⟩ := HARG.out W3 HBB.out
    have HC7 : Hid _ := HTO.out W3 _ _ g1 g2
    clear g1 g2
    go_upto_region 9 with (go_at_call 6; refine (Calls.mono HC7.out ?_); rintro e w4 ⟨d7, e7, F7, rfl, o7, f7, b7⟩; obtain ⟨a7, p7, b77, l7, m7, rfl, rfl⟩ := o7.shape; have O7 : Hid (DbOwn w4 cs xs (.slice a7 cs.length p7) (.slice b77 l7 m7) F7) := o7; have N7 : Hid (∀ x ∈ F7, W3.heap.size ≤ x) := f7; have B7 : Hid (Below W3.heap.size W3 w4) := b7; clear o7 f7 b7)
    clear y0 y1
    obtain ⟨W4, hW4⟩ : ∃ W4, W4 = w4.alloc (.cells #[.slice a7 cs.length p7, .slice b77 l7 m7] 29) := ⟨_, rfl⟩
    rw [← hW4]
    have bW4 : Below w4.heap.size w4 W4 := by rw [hW4]; exact (Below.refl _ _).alloc (Nat.le_refl _) _
    have k7b : W4.heap[w4.heap.size]? = some (.cells #[.slice a7 cs.length p7, .slice b77 l7 m7] 29 (0, 0)) := by rw [hW4]; exact heap_alloc_new _ _
    have HB4 : Hid (Below W3.heap.size W3 W4) := B7.out.trans (bW4.mono B7.out.size)
    have O7' : Hid (DbOwn W4 cs xs (.slice a7 cs.length p7) (.slice b77 l7 m7) F7) := O7.out.below bW4
    have L7 : Hid (∀ x ∈ F7, x < w4.heap.size) := O7.out.lt
    have sW4 : W4.heap.size = w4.heap.size + 1 := by rw [hW4]; simp
    have hs34 : W3.heap.size ≤ w4.heap.size := B7.out.size
    obtain ⟨q7, hp7⟩ : ∃ q7, q7 = w4.heap.size := ⟨_, rfl⟩
    rw [← hp7] at k7b sW4 L7 hs34 ⊢
    have K7 : Hid (W4.heap[q7]? = some (.cells #[.slice a7 cs.length p7, .slice b77 l7 m7] 29 (0, 0))) := k7b
    clear hW4 bW4 k7b O7 B7 hp7 HC7
    -- g0
    have e0 := blk_cell (i := 0) K7.out (by simp)
    have e1 := blk_cell (i := 1) K7.out (by simp)
    have HC9 : Hid _ := HIM.out W4 _ _ F7 O7'.out
    go_upto_region 10 with (go_at_call 7; refine (Calls.mono HC9.out ?_); rintro e w6 ⟨d9, e9, F9, rfl, o9, f9, b9⟩; obtain ⟨a9, p9, b99, l9, m9, rfl, rfl⟩ := o9.shape; have O9 : Hid (DbOwn w6 cs R (.slice a9 cs.length p9) (.slice b99 l9 m9) F9) := o9; have N9 : Hid (∀ x ∈ F9, W4.heap.size ≤ x) := f9; have B9 : Hid (Below W4.heap.size W4 w6) := b9; clear o9 f9 b9)
    obtain ⟨W6, hW6⟩ : ∃ W6, W6 = w6.alloc (.cells #[.slice a9 cs.length p9, .slice b99 l9 m9] 29) := ⟨_, rfl⟩
    rw [← hW6]
    have bW6 : Below w6.heap.size w6 W6 := by rw [hW6]; exact (Below.refl _ _).alloc (Nat.le_refl _) _
    have k9b : W6.heap[w6.heap.size]? = some (.cells #[.slice a9 cs.length p9, .slice b99 l9 m9] 29 (0, 0)) := by rw [hW6]; exact heap_alloc_new _ _
    have HB6 : Hid (Below W4.heap.size W4 W6) := B9.out.trans (bW6.mono B9.out.size)
    have O9' : Hid (DbOwn W6 cs R (.slice a9 cs.length p9) (.slice b99 l9 m9) F9) := O9.out.below bW6
    have L9 : Hid (∀ x ∈ F9, x < w6.heap.size) := O9.out.lt
    have sW6 : W6.heap.size = w6.heap.size + 1 := by rw [hW6]; simp
    have hs46 : W4.heap.size ≤ w6.heap.size := B9.out.size
    obtain ⟨q9, hp9⟩ : ∃ q9, q9 = w6.heap.size := ⟨_, rfl⟩
    rw [← hp9] at k9b sW6 L9 hs46 ⊢
    have K9 : Hid (W6.heap[q9]? = some (.cells #[.slice a9 cs.length p9, .slice b99 l9 m9] 29 (0, 0))) := k9b
    have O7b : Hid (DbOwn W6 cs xs (.slice a7 cs.length p7) (.slice b77 l7 m7) F7) := O7'.out.below HB6.out
    have K7b : Hid (W6.heap[q7]? = some (.cells #[.slice a7 cs.length p7, .slice b77 l7 m7] 29 (0, 0))) := (HB6.out.block q7 (by omega)).trans K7.out
    have HB36 : Hid (Below W3.heap.size W3 W6) := HB4.out.trans (HB6.out.mono HB4.out.size)
    clear hW6 bW6 k9b O9 B9 hp9 HC9 e0 e1 O7' K7
    have HALL : Hid (∀ w', Out (F7 ++ F9) W6 w' → Below W3.heap.size W3 w' ∧ (w'.cell? ⟨q7, 0, none⟩ = some (.slice a7 cs.length p7) ∧ w'.cell? ⟨q7, 1, none⟩ = some (.slice b77 l7 m7)) ∧ (w'.cell? ⟨q9, 0, none⟩ = some (.slice a9 cs.length p9) ∧ w'.cell? ⟨q9, 1, none⟩ = some (.slice b99 l9 m9))) := fun w' hu => by
      have h7 : ∀ x ∈ F7, W3.heap.size ≤ x ∧ x < q7 := fun x hx => ⟨N7.out x hx, L7.out x hx⟩
      have h9 : ∀ x ∈ F9, W4.heap.size ≤ x ∧ x < q9 := fun x hx => ⟨N9.out x hx, L9.out x hx⟩
      have hb : Below W3.heap.size W3 w' := HB36.out.trans (hu.below (fun x hx => by
        rcases List.mem_append.1 hx with hx | hx
        · exact (h7 x hx).1
        · have := (h9 x hx).1; omega) HB36.out.size)
      have hn7 : q7 ∉ F7 ++ F9 := fun hx => by
        rcases List.mem_append.1 hx with hx | hx
        · have := (h7 _ hx).2; omega
        · have := (h9 _ hx).1; omega
      have hn9 : q9 ∉ F7 ++ F9 := fun hx => by
        rcases List.mem_append.1 hx with hx | hx
        · have := (h7 _ hx).2; omega
        · have := (h9 _ hx).2; omega
      have hq9 := (hu.block q9 (by omega) hn9).trans K9.out
      have hq7 := (hu.block q7 (by omega) hn7).trans K7b.out
      exact ⟨hb, ⟨blk_cell (i := 0) hq7 (by simp), blk_cell (i := 1) hq7 (by simp)⟩, ⟨blk_cell (i := 0) hq9 (by simp), blk_cell (i := 1) hq9 (by simp)⟩⟩
    have D79 : Hid (∀ x ∈ F9, x ∉ F7) := fun x hx h => by have := N9.out x hx; have := L7.out x h; omega
    clear K7b K9 L7 L9 HB36 HB4 HB6 hs46 hs34 sW4 sW6
    -- g0 is w0
    obtain ⟨a1', _, b0, b1⟩ := HALL.out W6 (Out.refl _ _)
    obtain ⟨x0, x1, x4⟩ := H6.out W6 a1'
    have HE : Hid _ := HEQ.out W6 _ _ _ _ _ _ O9'.out x4
    clear x4 a1'
    go_upto_region 12 with (go_at_call 8; refine (Calls.mono HE.out ?_); rintro e w7 ⟨rfl, b7⟩; have U7 : Hid (Below W6.heap.size W6 w7) := b7; clear b7)
    clear b0 b1 x0 x1 HE
    -- x0 is as it was
    refine wp_region_facts 4 (fun i v _ w' => match i with
      | 0 => v = .agg #[.slice a7 cs.length p7, .slice b77 l7 m7]
      | 1 => v = .agg #[.slice a1 cs.length p1, .slice a2 xs.length p2]
      | 2 => ∃ a13 p13 b13 l13 m13 F13, v = .agg #[.slice a13 cs.length p13, .slice b13 l13 m13] ∧ DbOwn w' cs xs (.slice a13 cs.length p13) (.slice b13 l13 m13) F13
      | _ => v = .bool true) (by kernel_rfl) (by kernel_rfl) 77 rfl (by kernel_rfl) ?_ ?_ ?_
    · intro i v S w w' hi h hb
      match i, hi, h with
      | 0, _, h => exact h
      | 1, _, h => exact h
      | 2, _, ⟨a13, p13, b13, l13, m13, F13, h1, h2⟩ => exact ⟨a13, p13, b13, l13, m13, F13, h1, h2.below hb⟩
      | 3, _, h => exact h
    · intro i o hi ho a w' hb hfr hdep
      have hb6 : Below W6.heap.size W6 w' := U7.out.trans (hb.mono U7.out.size)
      obtain ⟨hb3, ⟨m0, m1⟩, _⟩ := HALL.out w' (Out.of_below hb6)
      obtain ⟨g1, g2, y0, y1⟩ := HARG.out w' (HBB.out.trans (hb3.mono HBB.out.size))
      have u2 : a.tmps.getD 2 undef = .pointer (some ⟨w.heap.size, 0, none⟩) := hfr 2 (by decide)
      have u7 : a.tmps.getD 7 undef = .pointer (some ⟨q7, 0, none⟩) := hfr 7 (by decide)
      match i, hi with
      | 0, _ =>
        obtain rfl : _ = o := by simpa using ho
        refine fact_value (w' := w') (v := .agg #[.slice a7 cs.length p7, .slice b77 l7 m7]) ?_ (Below.refl _ _) ⟨[], rfl, by simp⟩
        clear g1 g2
        simp only [execOp, Act.eval, u7]
        go_simp
      | 1, _ =>
        obtain rfl : _ = o := by simpa using ho
        refine fact_value (w' := w') (v := .agg #[.slice a1 cs.length p1, .slice a2 xs.length p2]) ?_ (Below.refl _ _) ⟨[], rfl, by simp⟩
        clear g1 g2
        simp only [execOp, Act.eval, u2]
        go_simp
      | 2, _ =>
        obtain rfl : _ = o := by simpa using ho
        obtain ⟨_, h0⟩ : ∃ _ : List Nat, a.tmps.getD 35 undef = .agg #[.slice a1 cs.length p1, .slice a2 xs.length p2] := hdep 1 (by kernel_rfl)
        refine fact_call rfl Try.func6 (by kernel_rfl) (by kernel_rfl) (args := #[.agg #[.slice a1 cs.length p1, .slice a2 xs.length p2]]) ?_ ?_
        · simp [Act.eval, h0]
        · refine Calls.mono (HTO.out w' _ _ g1 g2) ?_
          rintro e w4 ⟨d0, d1, F, rfl, o1, _, hb4⟩
          obtain ⟨a13, p13, b13, l13, m13, rfl, rfl⟩ := o1.shape
          exact ⟨_, rfl, hb4, [], ⟨_, _, _, _, _, _, rfl, o1⟩, by simp⟩
      | 3, _ =>
        obtain rfl : _ = o := by simpa using ho
        obtain ⟨_, h0⟩ : ∃ _ : List Nat, a.tmps.getD 34 undef = .agg #[.slice a7 cs.length p7, .slice b77 l7 m7] := hdep 0 (by kernel_rfl)
        obtain ⟨_, a13, p13, b13, l13, m13, F13, h1, h2⟩ : ∃ _ : List Nat, ∃ a13 p13 b13 l13 m13 F13, a.tmps.getD 36 undef = .agg #[.slice a13 cs.length p13, .slice b13 l13 m13] ∧ DbOwn w' cs xs (.slice a13 cs.length p13) (.slice b13 l13 m13) F13 := hdep 2 (by kernel_rfl)
        refine fact_call rfl Try.func8 (by kernel_rfl) (by kernel_rfl) (args := #[.agg #[.slice a7 cs.length p7, .slice b77 l7 m7], .agg #[.slice a13 cs.length p13, .slice b13 l13 m13]]) ?_ ?_
        · simp [Act.eval, h0]; simpa using h1
        · refine Calls.mono (HEX.out w' _ _ _ _ _ _ (O7b.out.below hb6) h2) ?_
          rintro e w4 ⟨rfl, hb4⟩
          exact ⟨_, rfl, hb4, [], rfl, by simp⟩
    intro vals S w9 hb hf _
    have h3 : vals 3 = .bool true := (hf 3 (by omega)).1
    have U9 : Hid (Below W6.heap.size W6 w9) := U7.out.trans (hb.mono U7.out.size)
    simp only [putN, List.getElem?_toArray, List.getElem?_cons_zero, List.getElem?_cons_succ, Option.bind_some, List.drop_succ_cons, List.drop_zero, h3]
    generalize vals 0 = v31
    generalize vals 1 = v32
    generalize vals 2 = v33
    clear hf h3 hb U7
    go_upto_region 15 with fail
    -- what is written into x0 is not in g0
    obtain ⟨_, ⟨m0, m1⟩, _⟩ := HALL.out w9 (Out.of_below U9.out)
    have HK : Hid _ := HMX.out w9 _ _ _ (O7b.out.below U9.out)
    go_upto_region 16 with (go_at_call 9; refine (Calls.mono HK.out ?_); rintro e w10 ⟨n1, rfl, u⟩; have U10 : Hid (Out F7 w9 w10) := u; clear u)
    clear m0 m1 HK
    have hn1 : ¬ ((n1 : Nat) : Int) < 0 := by omega
    have V10 : Hid (Out (F7 ++ F9) W6 w10) := (Out.of_below U9.out).trans (U10.out.mono fun x hx => List.mem_append_left _ hx)
    have O9d : Hid (DbOwn w10 cs R (.slice a9 cs.length p9) (.slice b99 l9 m9) F9) := O9'.out.keep fun x hx => by
      have hl := O9'.out.lt x hx
      exact (U10.out.block x (Nat.lt_of_lt_of_le hl U9.out.size) (D79.out x hx)).trans (U9.out.block x hl)
    obtain ⟨a1', _, b0, b1⟩ := HALL.out w10 V10.out
    obtain ⟨x0, x1, x4⟩ := H6.out w10 a1'
    have HE : Hid _ := HEQ.out w10 _ _ _ _ _ _ O9d.out x4
    clear x4 a1'
    go_upto_region 19 with (go_at_call 8; refine (Calls.mono HE.out ?_); rintro e w12 ⟨rfl, b12⟩; have U12 : Hid (Below w10.heap.size w10 w12) := b12; clear b12)
    clear b0 b1 x0 x1 HE hn1
    -- g0 owns its memory
    have V12 : Hid (Out (F7 ++ F9) W6 w12) := V10.out.trans (Out.of_below U12.out)
    obtain ⟨_, _, b0, b1⟩ := HALL.out w12 V12.out
    have HK : Hid _ := HMR.out w12 _ _ _ (O9d.out.below U12.out)
    go_upto_region 21 with (go_at_call 9; refine (Calls.mono HK.out ?_); rintro e w13 ⟨rfl, t13, u⟩; have U13 : Hid (Out F9 w12 w13) := u; have T13 : Hid (DbMarked w13 cs R.length (.slice a9 cs.length p9) (.slice b99 l9 m9)) := t13; clear u t13)
    clear b0 b1 HK O9d
    have V13 : Hid (Out (F7 ++ F9) W6 w13) := V12.out.trans (U13.out.mono fun f hf => List.mem_append_right _ hf)
    obtain ⟨_, _, b0, b1⟩ := HALL.out w13 V13.out
    have HK : Hid _ := HHD.out w13 _ _ T13.out
    go_upto_region 26 with (go_at_call 10; refine (Calls.mono HK.out ?_); rintro e w14 ⟨rfl, b14⟩; have U14 : Hid (Below w13.heap.size w13 w14) := b14; clear b14)
    clear b0 b1 HK
    have V14 : Hid (Out (F7 ++ F9) W6 w14) := V13.out.trans (Out.of_below U14.out)
    have B314 : Hid (Below W3.heap.size W3 w14) := (HALL.out w14 V14.out).1
    -- once more
    have BW14 : Hid (Below W.heap.size W w14) := HBB.out.trans (B314.out.mono HBB.out.size)
    obtain ⟨g1, g2, y0, y1⟩ := HARG.out w14 BW14.out
    have HC1 : Hid _ := HTO.out w14 _ _ g1 g2
    clear g1 g2
    go_upto_region 27 with (first
      | (go_at_call 6; refine (Calls.mono HC1.out ?_); rintro e w15 ⟨d0, d1, F1, rfl, o1, _, hb⟩; have B15 : Hid (Below w14.heap.size w14 w15) := hb; have HC2 : Hid _ := HIM.out w15 _ _ F1 o1; clear o1 hb)
      | (go_at_call 7; refine (Calls.mono HC2.out ?_); rintro e w16 ⟨d3, e3, F16, rfl, o3, _, hb⟩; obtain ⟨a16, p16, b16, l16, m16, rfl, rfl⟩ := o3.shape; have T16 : Hid (DbOwn w16 cs R (.slice a16 cs.length p16) (.slice b16 l16 m16) F16) := o3; have B16 : Hid (Below w14.heap.size w14 w16) := B15.out.trans (hb.mono B15.out.size); clear o3 hb))
    clear y0 y1 HC1 HC2
    obtain ⟨W16, hW16⟩ : ∃ W16, W16 = w16.alloc (.cells #[.slice a16 cs.length p16, .slice b16 l16 m16] 29) := ⟨_, rfl⟩
    rw [← hW16]
    have bW16 : Below w16.heap.size w16 W16 := by rw [hW16]; exact (Below.refl _ _).alloc (Nat.le_refl _) _
    have k16 : W16.heap[w16.heap.size]? = some (.cells #[.slice a16 cs.length p16, .slice b16 l16 m16] 29 (0, 0)) := by rw [hW16]; exact heap_alloc_new _ _
    have t16 : DbOwn W16 cs R (.slice a16 cs.length p16) (.slice b16 l16 m16) F16 := T16.out.below bW16
    have B17 : Hid (Below w14.heap.size w14 W16) := B16.out.trans (bW16.mono B16.out.size)
    have V16 : Hid (Out (F7 ++ F9) W6 W16) := V14.out.trans (Out.of_below B17.out)
    have B13 : Hid (Below w13.heap.size w13 W16) := U14.out.trans (B17.out.mono U14.out.size)
    have y0 := blk_cell (i := 0) k16 (by simp)
    have y1 := blk_cell (i := 1) k16 (by simp)
    obtain ⟨a1, _⟩ := HALL.out W16 V16.out
    obtain ⟨x0, x1, x4⟩ := H6.out W16 a1
    have HE : Hid _ := HEQ.out W16 _ _ _ _ _ _ t16 x4
    clear x4 a1 t16 hW16 bW16 k16 T16 B15 B16
    go_upto_region 29 with (go_at_call 8; refine (Calls.mono HE.out ?_); rintro e w17 ⟨rfl, b17⟩; have U17 : Hid (Below W16.heap.size W16 w17) := b17; clear b17)
    clear y0 y1 x0 x1 HE
    have V17 : Hid (Out (F7 ++ F9) W6 w17) := V16.out.trans (Out.of_below U17.out)
    have B18 : Hid (Below w13.heap.size w13 w17) := B13.out.trans (U17.out.mono B13.out.size)
    obtain ⟨_, _, b0, b1⟩ := HALL.out w17 V17.out
    have HK : Hid _ := HHD.out w17 _ _ (T13.out.keep B18.out)
    go_wp2_with (go_at_call 10; refine (Calls.mono HK.out ?_); rintro e w18 ⟨rfl, b18⟩; have U18 : Hid (Below w17.heap.size w17 w18) := b18; clear b18)
    have V18 : Hid (Out (F7 ++ F9) W6 w18) := V17.out.trans (Out.of_below U18.out)
    go_ret
    refine ⟨rfl, ?_⟩
    have h1 := (HALL.out w18 V18.out).1
    have h2 := HBB.out.trans (h1.mono HBB.out.size)
    exact HBW.out.trans (h2.mono HBW.out.size)
  · rw [show szR (dbWt cs xs) 1048576 = -1 from if_neg hwt, hW] at HSZ
    replace HSZ : Hid _ := HSZ
    clear hwt hg
    go_enter Try.func3, Try.ntmps3
    go_wp2_with (go_at_call 4; refine (Calls.mono HSZ.out ?_); rintro e w1 ⟨rfl, hb⟩; rw [← hW] at hb; have HB : Hid (Below w.heap.size w w1) := HBW.out.trans (hb.mono HBW.out.size); clear hb)
    go_ret
    exact ⟨rfl, HB.out⟩

set_option maxRecDepth 100000 in
theorem lifted (os : Os) (started : os.Started) (H : Type) (enc : TypeId × Value → H) :
    ReturnsInHanded {} Try.checked os 3 .any (Rows.fnExactOpenedSpec.pre6 enc Try.prog Try.f3 Rows.fnExactOpenedRow.domain false) (Rows.fnExactOpenedSpec.post enc Try.prog Try.f3 false true false false) := by
  refine returnsInHanded_of_change (C := Try.checked) own started (by kernel_rfl) Try.func3
    (ChangeSpec.witness6 (enc := enc) (C := Try.checked) false ⟨#[], #[.agg #[.slice none 0 0, .slice none 0 0], .string .empty], []⟩ 8 (by kernel_rfl) (by kernel_rfl) (by kernel_rfl) (by kernel_rfl)) ?_
  intro W base args ds gs before hval0 hW hcnd _
  have hval : ∀ (j : Nat) t v, Try.f3.params[j]? = some t → args[j]? = some v → Value.okWide Try.prog W .any base t v := hval0
  have hW' := hW
  have hlt := hW.lt
  obtain ⟨p, q, hA0, hV, rfl, hfz, hnd⟩ := hW
  have hA : DataW.TrodAll enc Try.prog W 0 (fun _ => true) true Try.f3.params.toList args.toList ds p := hA0
  rw [Try.params3] at hA hval
  obtain ⟨v0, vs0, d0, ds0, p0, q0, hargs, rfl, rfl, h0, r0⟩ := trodAll_cons hA
  obtain ⟨v1, vs1, d1, ds1, p1, q1, rfl, rfl, rfl, h1, r1⟩ := trodAll_cons r0
  obtain ⟨rfl, rfl, rfl⟩ := trodAll_nil r1
  obtain rfl : args = #[v0, v1] := by cases args; simp_all
  obtain ⟨rfl, rfl⟩ := trodVars_none hV
  simp only [List.append_nil] at hW'
  obtain ⟨s1, rfl, rfl, rfl, m1⟩ := open_string Try.underlying9 (hval 1 9 v1 rfl rfl) h1
  obtain ⟨cs, xs, c0, c1, rfl, hin0, hin1⟩ := db_split (hval 0 25 v0 rfl rfl) h0
  clear hA0 hval0
  refine (walk cs xs s1 m1 W _ _ hin0 hin1).mono fun e W' ⟨he, bel⟩ => ?_
  subst he
  exact ⟨_, rfl, _, _, _, [], _, [], hW', trodAll_mk1 (shut_bool Try.underlying4 _), (trodAll_cons_mk (Below.trod laidOutT readsDb rowDb h0 bel (fun x hx => hlt x (by simp [hx]))) (trodAll_cons_mk (shut_string Try.underlying9 m1) trodAll_mk0)), rfl, bel.frame _, fun h => by cases h⟩

theorem over : Rows.fnExactOpenedRow.holds Try.pinned (OpenSpec.ofChange Rows.fnExactOpenedSpec) :=
  OpenClaim.holds_of_wide 3 Try.f3 rfl rfl rfl rfl rfl rfl rfl ⟨rfl, rfl, rfl, rfl, rfl⟩ rfl rfl rfl rfl rfl (by kernel_rfl) Try.func3 (by kernel_rfl)
    (of_decide_eq_true (by kernel_rfl)) (by unfold Func.isWrapper; first | (rw [if_pos (by decide +kernel)]; kernel_rfl) | (rw [if_neg (by decide +kernel)]; exact ⟨rfl, rfl⟩))
    (fun os started H enc _ => lifted os started H enc)

theorem proved : Rows.FnExactOpenedSaid := over
#print axioms proved
end Go.Proofs.Ytmhmlkdoaojimap.fnExactOpened
