/- laws.szClauseS, laws.szStringS, laws.szDb. -/
import Derived.Test.YtmhmlkdoaojimapDoorClSz
import Derived.Test.YtmhmlkdoaojimapDoorMrg1
namespace Go.Proofs.YtmhmlkdoaojimapDoor
open Go.RowKit

theorem sz_clauses (ks : List Cla) (w : World) (sl : Value) (left : Nat) (h : ClsIn w ks sl) (hl : left ≤ 1048576) :
    Calls Tryd.prog 27 #[sl, .int .i64 (left : Int)] w fun e w' => e = .returned (.int .i64 (szR (ks.length + claWts ks) left)) ∧ Below w.heap.size w w' := by
  obtain ⟨ao, cap, rfl, hcap, hmax, h⟩ := h
  have hlen : ks.length ≤ maxLen := by omega
  unfold maxLen at hlen
  clear hcap hmax
  by_cases hk : ks.length ≤ left
  · go_enter Tryd.func27, Tryd.ntmps27
    go_wp2
    go_loopw [1, 5] (fun vl vi wr => Hid (Below w.heap.size w wr) ∧ ∃ j l : Nat, j ≤ ks.length ∧ vl = .int .i64 (l : Int) ∧ vi = .int .i64 (j : Int) ∧ Hid (l + ks.length + claWts (ks.take j) = left)) (fun _ i _ => ks.length - (intOf i).toNat)
    case atStart => exact ⟨Below.refl _ _, 0, left - ks.length, by omega, by simp; omega, rfl, by show _ = _; simp [claWts]; omega⟩
    case round =>
      obtain ⟨HB, j, l, hj, rfl, rfl, HL⟩ := hrel
      have hll : l ≤ 1048576 := by have := HL.out; omega
      by_cases hlt : j < ks.length
      · obtain ⟨b, off, rfl, hin⟩ := h (by intro e; subst e; simp at hlt)
        obtain ⟨k1, s1, n1, a1, l1, m1, k2, s2, n2, a2, l2, m2, h0, h1, h2, h3, h4, h5, h6, h7, h8, hf, i1, i2⟩ := (hin j hlt).keep HB.out
        have HC := sz_clause ks[j].h ks[j].b ks[j].f wr l k1 s1 n1 a1 l1 m1 k2 s2 n2 a2 l2 m2 i1 i2 hf hll
        have hw : claWts (ks.take (j + 1)) = claWts (ks.take j) + ks[j].wt := by
          rw [List.take_succ_eq_append_getElem hlt, claWts_append]; simp [claWts]
        rw [show ks[j].h.wt + ks[j].b.wt + ks[j].f.size = ks[j].wt from rfl] at HC
        have HW : Hid _ := hw
        clear hin i1 i2 hw h hf
        generalize ks[j].wt = cw at *
        generalize ks[j].f = cf at *
        by_cases hfit : cw ≤ l
        · have e : szR cw l = ((l - cw : Nat) : Int) := if_pos hfit
          rw [e] at HC
          replace HC : Hid _ := HC
          clear e
          go_wp2_with (go_at_call 57; refine (Calls.mono HC.out ?_); rintro e w1 ⟨rfl, hb⟩; have HB1 : Hid (Below w.heap.size w w1) := HB.out.trans (hb.mono HB.out.size); clear hb)
          go_roundw
          case rel => exact ⟨HB1.out, j + 1, l - cw, by omega, rfl, by go_num, by show _ = _; have := HL.out; have := HW.out; omega⟩
          case measure => simp [intOf]; omega
        · have e : szR cw l = -1 := if_neg hfit
          rw [e] at HC
          replace HC : Hid _ := HC
          clear e
          have hr : szR (ks.length + claWts ks) left = -1 := by
            have h1 := HL.out
            have h2 := HW.out
            have h3 : claWts (ks.take (j + 1)) + claWts (ks.drop (j + 1)) = claWts ks := by rw [← claWts_append, List.take_append_drop]
            unfold szR
            rw [if_neg (by omega)]
          have HR : Hid _ := hr
          clear hr
          go_wp2_with (go_at_call 57; refine (Calls.mono HC.out ?_); rintro e w1 ⟨rfl, hb⟩; have HB1 : Hid (Below w.heap.size w w1) := HB.out.trans (hb.mono HB.out.size); clear hb)
          go_ret
          exact ⟨by rw [HR.out]; rfl, HB1.out⟩
      · have hr : szR (ks.length + claWts ks) left = (l : Int) := by
          have h1 := HL.out
          rw [List.take_of_length_le (by omega)] at h1
          unfold szR
          rw [if_pos (by omega)]
          omega
        have HR : Hid _ := hr
        clear hr
        go_wp2
        go_ret
        exact ⟨by rw [HR.out]; rfl, HB.out⟩
  · have hr : szR (ks.length + claWts ks) left = -1 := by unfold szR; rw [if_neg (by omega)]
    rw [hr]
    go_enter Tryd.func27, Tryd.ntmps27
    go_wp2
    go_ret
    exact ⟨rfl, Below.refl _ _⟩

theorem sz_strs (ks : List ByteArray) (w : World) (sl : Value) (left : Nat) (h : SsIn w ks sl) (hl : left ≤ 1048576) :
    Calls Tryd.prog 28 #[sl, .int .i64 (left : Int)] w fun e w' => e = .returned (.int .i64 (szR (ks.length + strWts ks) left)) ∧ Below w.heap.size w w' := by
  obtain ⟨ao, cap, rfl, hcap, hmax, h⟩ := h
  have hlen : ks.length ≤ maxLen := by omega
  unfold maxLen at hlen
  clear hcap hmax
  by_cases hk : ks.length ≤ left
  · go_enter Tryd.func28, Tryd.ntmps28
    go_wp2
    go_loopw [1, 5] (fun vl vi wr => Hid (wr = w) ∧ ∃ j l : Nat, j ≤ ks.length ∧ vl = .int .i64 (l : Int) ∧ vi = .int .i64 (j : Int) ∧ Hid (l + ks.length + strWts (ks.take j) = left)) (fun _ i _ => ks.length - (intOf i).toNat)
    case atStart => exact ⟨rfl, 0, left - ks.length, by omega, by simp; omega, rfl, by show _ = _; simp [strWts]; omega⟩
    case round =>
      obtain ⟨HB, j, l, hj, rfl, rfl, HL⟩ := hrel
      obtain rfl := HB.out
      have hll : l ≤ 1048576 := by have := HL.out; omega
      by_cases hlt : j < ks.length
      · obtain ⟨b, off, rfl, hin⟩ := h (by intro e; subst e; simp at hlt)
        obtain ⟨hc, hs⟩ := hin j hlt
        unfold maxLen at hs
        have hw : strWts (ks.take (j + 1)) = strWts (ks.take j) + ks[j].size := by
          rw [List.take_succ_eq_append_getElem hlt, strWts_append]; simp [strWts]
        have HW : Hid _ := hw
        have h3 : strWts (ks.take (j + 1)) + strWts (ks.drop (j + 1)) = strWts ks := by rw [← strWts_append, List.take_append_drop]
        have H3 : Hid _ := h3
        clear hin hw h h3
        generalize ks[j] = x at *
        have hsi : (x.size : Int) ≤ 9223372036854775807 := by omega
        by_cases hfit : x.size ≤ l
        · have hn : ¬ (l : Int) - x.size < 0 := by omega
          go_wp2
          go_roundw
          case rel => exact ⟨by first | exact rfl | exact trivial, j + 1, l - x.size, by omega, by rw [show ((l - x.size : Nat) : Int) = (l : Int) - x.size by omega], by go_num, by show _ = _; have := HL.out; have := HW.out; omega⟩
          case measure => simp [intOf]; omega
        · have hn : (l : Int) - x.size < 0 := by omega
          have hr : szR (ks.length + strWts ks) left = -1 := by
            have h1 := HL.out
            have h2 := HW.out
            have h3 := H3.out
            unfold szR
            rw [if_neg (by omega)]
          have HR : Hid _ := hr
          clear hr
          go_wp2
          go_ret
          exact ⟨by rw [HR.out]; rfl, Below.refl _ _⟩
      · have hr : szR (ks.length + strWts ks) left = (l : Int) := by
          have h1 := HL.out
          rw [List.take_of_length_le (by omega)] at h1
          unfold szR
          rw [if_pos (by omega)]
          omega
        have HR : Hid _ := hr
        clear hr
        go_wp2
        go_ret
        exact ⟨by rw [HR.out]; rfl, Below.refl _ _⟩
  · have hr : szR (ks.length + strWts ks) left = -1 := by unfold szR; rw [if_neg (by omega)]
    rw [hr]
    go_enter Tryd.func28, Tryd.ntmps28
    go_wp2
    go_ret
    exact ⟨rfl, Below.refl _ _⟩

/-- how much a Db is -/
def dbWt (cs : List Cla) (xs : List ByteArray) : Nat := (cs.length + claWts cs) + (xs.length + strWts xs)
set_option maxRecDepth 20000 in
theorem sz_db (cs : List Cla) (xs : List ByteArray) (w : World) (c0 c1 : Value) (left : Nat) (h : ClsIn w cs c0) (hx : SsIn w xs c1) (hl : left ≤ 1048576) :
    Calls Tryd.prog 7 #[.agg #[c0, c1], .int .i64 (left : Int)] w fun e w' => e = .returned (.int .i64 (szR (dbWt cs xs) left)) ∧ Below w.heap.size w w' := by
  unfold dbWt
  obtain ⟨W, hW⟩ : ∃ W, W = w.alloc (.cells #[c0, c1] 25) := ⟨_, rfl⟩
  have bW : Below w.heap.size w W := by rw [hW]; exact (Below.refl _ _).alloc (Nat.le_refl _) _
  have k1' : W.heap[w.heap.size]? = some (.cells #[c0, c1] 25 (0, 0)) := by rw [hW]; exact heap_alloc_new w _
  have HK : Hid (∀ w1, Below W.heap.size W w1 → w1.heap[w.heap.size]? = some (.cells #[c0, c1] 25 (0, 0))) := fun w1 hb => (hb.block _ (Array.getElem?_eq_some_iff.1 k1').1).trans k1'
  have HBW : Hid (Below w.heap.size w W) := bW
  have HS1 := sz_clauses cs W c0 left (h.keep bW) hl
  have HS2 : ∀ (w1 : World) (l : Nat), Below W.heap.size W w1 → l ≤ 1048576 → Calls Tryd.prog 28 #[c1, .int .i64 (l : Int)] w1 fun e w' => e = .returned (.int .i64 (szR (xs.length + strWts xs) l)) ∧ Below w1.heap.size w1 w' := fun w1 l hb hl2 => sz_strs xs w1 _ l ((hx.keep bW).keep hb) hl2
  obtain ⟨a1, p1, rfl, -⟩ := h
  obtain ⟨a2, p2, rfl, -⟩ := hx
  clear bW k1'
  generalize cs.length + claWts cs = m1 at *
  generalize xs.length + strWts xs = m2 at *
  generalize cs.length = q1 at *
  generalize xs.length = q2 at *
  by_cases c1' : m1 ≤ left
  · rw [show szR m1 left = ((left - m1 : Nat) : Int) from if_pos c1'] at HS1
    obtain ⟨l1, hl1⟩ : ∃ l1, l1 = left - m1 := ⟨_, rfl⟩
    rw [← hl1] at HS1
    have hn1 : ¬ (l1 : Int) < 0 := by omega
    have HS1' : Hid _ := HS1
    have HS3 : ∀ w1, Below W.heap.size W w1 → _ := fun w1 hb => HS2 w1 l1 hb (by omega)
    by_cases c2' : m2 ≤ l1
    · rw [show szR m2 l1 = ((l1 - m2 : Nat) : Int) from if_pos c2'] at HS3
      have HR : Hid (szR (m1 + m2) left = ((l1 - m2 : Nat) : Int)) := by
        show _ = _
        rw [show szR (m1 + m2) left = ((left - (m1 + m2) : Nat) : Int) from if_pos (by omega)]
        omega
      obtain ⟨l2, hl2⟩ : ∃ l2, l2 = l1 - m2 := ⟨_, rfl⟩
      rw [← hl2] at HS3 HR
      have hn2 : ¬ (l2 : Int) < 0 := by omega
      have HS3' : Hid _ := HS3
      clear HS1 HS2 HS3 c1' c2' hl1 hl2 hl
      rw [HR.out]
      go_enter Tryd.func7, Tryd.ntmps7
      go_upto_region 1 with fail
      rw [← hW]
      clear hW
      have z0 := blk_cell (i := 0) (HK.out W (Below.refl _ _)) (by simp)
      have z1 := blk_cell (i := 1) (HK.out W (Below.refl _ _)) (by simp)
      go_upto_region 4 with (go_at_call 27; refine (Calls.mono HS1'.out ?_); rintro e w1 ⟨rfl, hb⟩; have HB1 : Hid (Below W.heap.size W w1) := hb; clear hb)
      clear z0 z1
      have z1 := blk_cell (i := 1) (HK.out w1 HB1.out) (by simp)
      have HS4 : Hid _ := HS3'.out w1 HB1.out
      go_wp2_with (go_at_call 28; refine (Calls.mono HS4.out ?_); rintro e w2 ⟨rfl, hb⟩; have HB2 : Hid (Below W.heap.size W w2) := HB1.out.trans (hb.mono HB1.out.size); clear hb)
      go_ret
      exact ⟨rfl, HBW.out.trans (HB2.out.mono HBW.out.size)⟩
    · have HR : Hid (szR (m1 + m2) left = -1) := if_neg (by omega)
      rw [show szR m2 l1 = -1 from if_neg c2'] at HS3
      have HS3' : Hid _ := HS3
      clear HS1 HS2 HS3 c1' c2' hl1 hl
      rw [HR.out]
      go_enter Tryd.func7, Tryd.ntmps7
      go_upto_region 1 with fail
      rw [← hW]
      clear hW
      have z0 := blk_cell (i := 0) (HK.out W (Below.refl _ _)) (by simp)
      have z1 := blk_cell (i := 1) (HK.out W (Below.refl _ _)) (by simp)
      go_upto_region 4 with (go_at_call 27; refine (Calls.mono HS1'.out ?_); rintro e w1 ⟨rfl, hb⟩; have HB1 : Hid (Below W.heap.size W w1) := hb; clear hb)
      clear z0 z1
      have z1 := blk_cell (i := 1) (HK.out w1 HB1.out) (by simp)
      have HS4 : Hid _ := HS3'.out w1 HB1.out
      go_wp2_with (go_at_call 28; refine (Calls.mono HS4.out ?_); rintro e w2 ⟨rfl, hb⟩; have HB2 : Hid (Below W.heap.size W w2) := HB1.out.trans (hb.mono HB1.out.size); clear hb)
      go_ret
      exact ⟨rfl, HBW.out.trans (HB2.out.mono HBW.out.size)⟩
  · have HR : Hid (szR (m1 + m2) left = -1) := if_neg (by omega)
    rw [show szR m1 left = -1 from if_neg c1'] at HS1
    have HS1' : Hid _ := HS1
    clear HS1 HS2 c1' hl
    rw [HR.out]
    go_enter Tryd.func7, Tryd.ntmps7
    go_upto_region 1 with fail
    rw [← hW]
    clear hW
    have z0 := blk_cell (i := 0) (HK.out W (Below.refl _ _)) (by simp)
    go_wp2_with (go_at_call 27; refine (Calls.mono HS1'.out ?_); rintro e w1 ⟨rfl, hb⟩; have HB1 : Hid (Below W.heap.size W w1) := hb; clear hb)
    go_ret
    exact ⟨rfl, HBW.out.trans (HB1.out.mono HBW.out.size)⟩
end Go.Proofs.YtmhmlkdoaojimapDoor
