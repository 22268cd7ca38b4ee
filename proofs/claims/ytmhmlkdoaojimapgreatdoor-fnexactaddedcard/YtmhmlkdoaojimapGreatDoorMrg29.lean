/- Four texts in one. -/
import Derived.Test.YtmhmlkdoaojimapGreatDoorMrg28
import Derived.Test.YtmhmlkdoaojimapGreatDoorMrg2
import Derived.Deep.DeepCutAuto
import Derived.Test.YtmhmlkdoaojimapGreatDoorRows
import Derived.Test.YtmhmlkdoaojimapGreatDoorMrg9
import Derived.ProofKit
/- laws.szClause. -/
namespace Go.Proofs.YtmhmlkdoaojimapGreatDoor
open Go.RowKit

set_option maxHeartbeats 4000000 in
theorem sz_clause (H B : Tm) (f : ByteArray) (w : World) (left : Nat) (k1 s1 n1 a1 l1 c1 k2 s2 n2 a2 l2 c2) (h1 : TmIn w H (.agg #[.int .i64 k1, .string s1, .int .i64 n1, .slice a1 l1 c1])) (h2 : TmIn w B (.agg #[.int .i64 k2, .string s2, .int .i64 n2, .slice a2 l2 c2])) (hf : f.size ≤ maxLen) (hl : left ≤ 1048576) :
    Calls Tryz.prog 5 #[.agg #[.int .i64 k1, .string s1, .int .i64 n1, .slice a1 l1 c1, .int .i64 k2, .string s2, .int .i64 n2, .slice a2 l2 c2, .string f], .int .i64 (left : Int)] w fun e w' => e = .returned (.int .i64 (szR (H.wt + B.wt + f.size) left)) ∧ Below w.heap.size w w' := by
  unfold maxLen at hf
  obtain ⟨W, hW⟩ : ∃ W, W = w.alloc (.cells #[.int .i64 k1, .string s1, .int .i64 n1, .slice a1 l1 c1, .int .i64 k2, .string s2, .int .i64 n2, .slice a2 l2 c2, .string f] 30) := ⟨_, rfl⟩
  have bW : Below w.heap.size w W := by rw [hW]; exact (Below.refl _ _).alloc (Nat.le_refl _) _
  have k1' : W.heap[w.heap.size]? = some (.cells #[.int .i64 k1, .string s1, .int .i64 n1, .slice a1 l1 c1, .int .i64 k2, .string s2, .int .i64 n2, .slice a2 l2 c2, .string f] 30 (0, 0)) := by rw [hW]; exact heap_alloc_new w _
  have HK : Hid (∀ w1, Below W.heap.size W w1 → w1.heap[w.heap.size]? = some (.cells #[.int .i64 k1, .string s1, .int .i64 n1, .slice a1 l1 c1, .int .i64 k2, .string s2, .int .i64 n2, .slice a2 l2 c2, .string f] 30 (0, 0))) := fun w1 hb => (hb.block _ (Array.getElem?_eq_some_iff.1 k1').1).trans k1'
  have HBW : Hid (Below w.heap.size w W) := bW
  have HS1 := sz_term H W _ left (TmIn.keep bW _ _ h1) hl
  have HS2 : ∀ (w1 : World) (l : Nat), Below W.heap.size W w1 → l ≤ 1048576 → Calls Tryz.prog 17 #[.agg #[.int .i64 k2, .string s2, .int .i64 n2, .slice a2 l2 c2], .int .i64 (l : Int)] w1 fun e w' => e = .returned (.int .i64 (szR B.wt l)) ∧ Below w1.heap.size w1 w' := fun w1 l hb hl2 => sz_term B w1 _ l (TmIn.keep hb _ _ (TmIn.keep bW _ _ h2)) hl2
  clear h1 h2 bW k1'
  by_cases c1' : H.wt ≤ left
  · rw [show szR H.wt left = ((left - H.wt : Nat) : Int) from if_pos c1'] at HS1
    obtain ⟨l1, hl1⟩ : ∃ l1, l1 = left - H.wt := ⟨_, rfl⟩
    rw [← hl1] at HS1
    have hn1 : ¬ (l1 : Int) < 0 := by omega
    have HS1' : Hid _ := HS1
    have HS3 : ∀ w1, Below W.heap.size W w1 → _ := fun w1 hb => HS2 w1 l1 hb (by omega)
    by_cases c2' : B.wt ≤ l1
    · rw [show szR B.wt l1 = ((l1 - B.wt : Nat) : Int) from if_pos c2'] at HS3
      obtain ⟨l2, hl2⟩ : ∃ l2, l2 = l1 - B.wt := ⟨_, rfl⟩
      rw [← hl2] at HS3
      have hn2 : ¬ (l2 : Int) < 0 := by omega
      have HS3' : Hid _ := HS3
      have HLL : Hid (l2 ≤ 1048576) := by show _ ≤ _; omega
      have hl2i : (l2 : Int) ≤ 1048576 := by omega
      have hfi : (f.size : Int) ≤ 9223372036854775807 := by omega
      by_cases c3' : f.size ≤ l2
      · have HR : Hid (szR (H.wt + B.wt + f.size) left = (l2 : Int) - f.size) := by
          show _ = _
          rw [show szR (H.wt + B.wt + f.size) left = ((left - (H.wt + B.wt + f.size) : Nat) : Int) from if_pos (by omega)]
          omega
        have hn3 : ¬ (l2 : Int) - f.size < 0 := by omega
        clear HS1 HS2 HS3 c1' c2' c3' hl1 hl2 hl
        rw [HR.out]
        go_enter Tryz.func5, Tryz.ntmps5
        go_upto_region 1 with fail
        rw [← hW]
        clear hW
        obtain ⟨⟨z0, z1, z2, z3, z4, z5, z6, z7, z8⟩, _⟩ := blk9 (HK.out W (Below.refl _ _))
        go_upto_region 4 with (go_at_call 17; refine (Calls.mono HS1'.out ?_); rintro e w1 ⟨rfl, hb⟩; have HB1 : Hid (Below W.heap.size W w1) := hb; clear hb)
        clear z0 z1 z2 z3 z4 z5 z6 z7 z8
        obtain ⟨⟨z0, z1, z2, z3, z4, z5, z6, z7, z8⟩, _⟩ := blk9 (HK.out w1 HB1.out)
        have HS4 : Hid _ := HS3'.out w1 HB1.out
        go_upto_region 7 with (go_at_call 17; refine (Calls.mono HS4.out ?_); rintro e w2 ⟨rfl, hb⟩; have HB2 : Hid (Below W.heap.size W w2) := HB1.out.trans (hb.mono HB1.out.size); clear hb)
        clear z0 z1 z2 z3 z4 z5 z6 z7 z8
        obtain ⟨⟨z0, z1, z2, z3, z4, z5, z6, z7, z8⟩, _⟩ := blk9 (HK.out w2 HB2.out)
        go_wp2
        go_ret
        exact ⟨rfl, HBW.out.trans (HB2.out.mono HBW.out.size)⟩
      · have HR : Hid (szR (H.wt + B.wt + f.size) left = -1) := if_neg (by omega)
        have hn3 : (l2 : Int) - f.size < 0 := by omega
        clear HS1 HS2 HS3 c1' c2' c3' hl1 hl2 hl
        rw [HR.out]
        go_enter Tryz.func5, Tryz.ntmps5
        go_upto_region 1 with fail
        rw [← hW]
        clear hW
        obtain ⟨⟨z0, z1, z2, z3, z4, z5, z6, z7, z8⟩, _⟩ := blk9 (HK.out W (Below.refl _ _))
        go_upto_region 4 with (go_at_call 17; refine (Calls.mono HS1'.out ?_); rintro e w1 ⟨rfl, hb⟩; have HB1 : Hid (Below W.heap.size W w1) := hb; clear hb)
        clear z0 z1 z2 z3 z4 z5 z6 z7 z8
        obtain ⟨⟨z0, z1, z2, z3, z4, z5, z6, z7, z8⟩, _⟩ := blk9 (HK.out w1 HB1.out)
        have HS4 : Hid _ := HS3'.out w1 HB1.out
        go_upto_region 7 with (go_at_call 17; refine (Calls.mono HS4.out ?_); rintro e w2 ⟨rfl, hb⟩; have HB2 : Hid (Below W.heap.size W w2) := HB1.out.trans (hb.mono HB1.out.size); clear hb)
        clear z0 z1 z2 z3 z4 z5 z6 z7 z8
        obtain ⟨⟨z0, z1, z2, z3, z4, z5, z6, z7, z8⟩, _⟩ := blk9 (HK.out w2 HB2.out)
        go_wp2
        go_ret
        exact ⟨rfl, HBW.out.trans (HB2.out.mono HBW.out.size)⟩
    · have HR : Hid (szR (H.wt + B.wt + f.size) left = -1) := if_neg (by omega)
      rw [show szR B.wt l1 = -1 from if_neg c2'] at HS3
      have HS3' : Hid _ := HS3
      clear HS1 HS2 HS3 c1' c2' hl1 hl
      rw [HR.out]
      go_enter Tryz.func5, Tryz.ntmps5
      go_upto_region 1 with fail
      rw [← hW]
      clear hW
      obtain ⟨⟨z0, z1, z2, z3, z4, z5, z6, z7, z8⟩, _⟩ := blk9 (HK.out W (Below.refl _ _))
      go_upto_region 4 with (go_at_call 17; refine (Calls.mono HS1'.out ?_); rintro e w1 ⟨rfl, hb⟩; have HB1 : Hid (Below W.heap.size W w1) := hb; clear hb)
      clear z0 z1 z2 z3 z4 z5 z6 z7 z8
      obtain ⟨⟨z0, z1, z2, z3, z4, z5, z6, z7, z8⟩, _⟩ := blk9 (HK.out w1 HB1.out)
      have HS4 : Hid _ := HS3'.out w1 HB1.out
      go_wp2_with (go_at_call 17; refine (Calls.mono HS4.out ?_); rintro e w2 ⟨rfl, hb⟩; have HB2 : Hid (Below W.heap.size W w2) := HB1.out.trans (hb.mono HB1.out.size); clear hb)
      go_ret
      exact ⟨rfl, HBW.out.trans (HB2.out.mono HBW.out.size)⟩
  · have HR : Hid (szR (H.wt + B.wt + f.size) left = -1) := if_neg (by omega)
    rw [show szR H.wt left = -1 from if_neg c1'] at HS1
    have HS1' : Hid _ := HS1
    clear HS1 HS2 c1' hl
    rw [HR.out]
    go_enter Tryz.func5, Tryz.ntmps5
    go_upto_region 1 with fail
    rw [← hW]
    clear hW
    obtain ⟨⟨z0, z1, z2, z3, z4, z5, z6, z7, z8⟩, _⟩ := blk9 (HK.out W (Below.refl _ _))
    go_wp2_with (go_at_call 17; refine (Calls.mono HS1'.out ?_); rintro e w1 ⟨rfl, hb⟩; have HB1 : Hid (Below W.heap.size W w1) := hb; clear hb)
    go_ret
    exact ⟨rfl, HBW.out.trans (HB1.out.mono HBW.out.size)⟩
end Go.Proofs.YtmhmlkdoaojimapGreatDoor

/- laws.szClauseS, laws.szStringS, laws.szDb. -/
namespace Go.Proofs.YtmhmlkdoaojimapGreatDoor
open Go.RowKit

theorem sz_clauses (ks : List Cla) (w : World) (sl : Value) (left : Nat) (h : ClsIn w ks sl) (hl : left ≤ 1048576) :
    Calls Tryz.prog 15 #[sl, .int .i64 (left : Int)] w fun e w' => e = .returned (.int .i64 (szR (ks.length + claWts ks) left)) ∧ Below w.heap.size w w' := by
  obtain ⟨ao, cap, rfl, hcap, hmax, h⟩ := h
  have hlen : ks.length ≤ maxLen := by omega
  unfold maxLen at hlen
  clear hcap hmax
  by_cases hk : ks.length ≤ left
  · go_enter Tryz.func15, Tryz.ntmps15
    go_wp2
    go_loopw [1, 5] (fun vl vi wr => Hid (Below w.heap.size w wr) ∧ ∃ j l : Nat, j ≤ ks.length ∧ vl = .int .i64 (l : Int) ∧ vi = .int .i64 (j : Int) ∧ Hid (l + ks.length + claWts (ks.take j) = left)) (fun _ i _ => ks.length - (intOf i).toNat)
    case atStart => exact ⟨Below.refl _ _, 0, left - ks.length, by omega, by simp; omega, rfl, by show _ = _; simp [claWts]; omega⟩
    case round =>
      obtain ⟨HB, j, l, hj, rfl, rfl, HL⟩ := hrel
      have hll : l ≤ 1048576 := by have := HL.out; omega
      by_cases hlt : j < ks.length
      · obtain ⟨b, off, rfl, hin⟩ := h (by intro e; subst e; simp at hlt)
        obtain ⟨k1, s1, n1, a1, l1, m1, k2, s2, n2, a2, l2, m2, h0, h1, h2, h3, h4, h5, h6, h7, h8, hf, i1, i2⟩ := (hin j hlt).keep HB.out
        have HC := sz_clause ks[j].h ks[j].b ks[j].f wr l k1 s1 n1 a1 l1 m1 k2 s2 n2 a2 l2 m2 i1 i2 hf hll
        have hw : claWts (ks.take (j + 1)) = claWts (ks.take j) + ks[j].wt := by
          rw [List.take_succ_eq_append_getElem hlt, claWts_append]; simp [claWts]
        rw [show ks[j].h.wt + ks[j].b.wt + ks[j].f.size = ks[j].wt from rfl] at HC
        have HW : Hid _ := hw
        clear hin i1 i2 hw h hf
        generalize ks[j].wt = cw at *
        generalize ks[j].f = cf at *
        by_cases hfit : cw ≤ l
        · have e : szR cw l = ((l - cw : Nat) : Int) := if_pos hfit
          rw [e] at HC
          replace HC : Hid _ := HC
          clear e
          go_wp2_with (go_at_call 5; refine (Calls.mono HC.out ?_); rintro e w1 ⟨rfl, hb⟩; have HB1 : Hid (Below w.heap.size w w1) := HB.out.trans (hb.mono HB.out.size); clear hb)
          go_roundw
          case rel => exact ⟨HB1.out, j + 1, l - cw, by omega, rfl, by go_num, by show _ = _; have := HL.out; have := HW.out; omega⟩
          case measure => simp [intOf]; omega
        · have e : szR cw l = -1 := if_neg hfit
          rw [e] at HC
          replace HC : Hid _ := HC
          clear e
          have hr : szR (ks.length + claWts ks) left = -1 := by
            have h1 := HL.out
            have h2 := HW.out
            have h3 : claWts (ks.take (j + 1)) + claWts (ks.drop (j + 1)) = claWts ks := by rw [← claWts_append, List.take_append_drop]
            unfold szR
            rw [if_neg (by omega)]
          have HR : Hid _ := hr
          clear hr
          go_wp2_with (go_at_call 5; refine (Calls.mono HC.out ?_); rintro e w1 ⟨rfl, hb⟩; have HB1 : Hid (Below w.heap.size w w1) := HB.out.trans (hb.mono HB.out.size); clear hb)
          go_ret
          exact ⟨by rw [HR.out]; rfl, HB1.out⟩
      · have hr : szR (ks.length + claWts ks) left = (l : Int) := by
          have h1 := HL.out
          rw [List.take_of_length_le (by omega)] at h1
          unfold szR
          rw [if_pos (by omega)]
          omega
        have HR : Hid _ := hr
        clear hr
        go_wp2
        go_ret
        exact ⟨by rw [HR.out]; rfl, HB.out⟩
  · have hr : szR (ks.length + claWts ks) left = -1 := by unfold szR; rw [if_neg (by omega)]
    rw [hr]
    go_enter Tryz.func15, Tryz.ntmps15
    go_wp2
    go_ret
    exact ⟨rfl, Below.refl _ _⟩

theorem sz_strs (ks : List ByteArray) (w : World) (sl : Value) (left : Nat) (h : SsIn w ks sl) (hl : left ≤ 1048576) :
    Calls Tryz.prog 16 #[sl, .int .i64 (left : Int)] w fun e w' => e = .returned (.int .i64 (szR (ks.length + strWts ks) left)) ∧ Below w.heap.size w w' := by
  obtain ⟨ao, cap, rfl, hcap, hmax, h⟩ := h
  have hlen : ks.length ≤ maxLen := by omega
  unfold maxLen at hlen
  clear hcap hmax
  by_cases hk : ks.length ≤ left
  · go_enter Tryz.func16, Tryz.ntmps16
    go_wp2
    go_loopw [1, 5] (fun vl vi wr => Hid (wr = w) ∧ ∃ j l : Nat, j ≤ ks.length ∧ vl = .int .i64 (l : Int) ∧ vi = .int .i64 (j : Int) ∧ Hid (l + ks.length + strWts (ks.take j) = left)) (fun _ i _ => ks.length - (intOf i).toNat)
    case atStart => exact ⟨rfl, 0, left - ks.length, by omega, by simp; omega, rfl, by show _ = _; simp [strWts]; omega⟩
    case round =>
      obtain ⟨HB, j, l, hj, rfl, rfl, HL⟩ := hrel
      obtain rfl := HB.out
      have hll : l ≤ 1048576 := by have := HL.out; omega
      by_cases hlt : j < ks.length
      · obtain ⟨b, off, rfl, hin⟩ := h (by intro e; subst e; simp at hlt)
        obtain ⟨hc, hs⟩ := hin j hlt
        unfold maxLen at hs
        have hw : strWts (ks.take (j + 1)) = strWts (ks.take j) + ks[j].size := by
          rw [List.take_succ_eq_append_getElem hlt, strWts_append]; simp [strWts]
        have HW : Hid _ := hw
        have h3 : strWts (ks.take (j + 1)) + strWts (ks.drop (j + 1)) = strWts ks := by rw [← strWts_append, List.take_append_drop]
        have H3 : Hid _ := h3
        clear hin hw h h3
        generalize ks[j] = x at *
        have hsi : (x.size : Int) ≤ 9223372036854775807 := by omega
        by_cases hfit : x.size ≤ l
        · have hn : ¬ (l : Int) - x.size < 0 := by omega
          go_wp2
          go_roundw
          case rel => exact ⟨by first | exact rfl | exact trivial, j + 1, l - x.size, by omega, by rw [show ((l - x.size : Nat) : Int) = (l : Int) - x.size by omega], by go_num, by show _ = _; have := HL.out; have := HW.out; omega⟩
          case measure => simp [intOf]; omega
        · have hn : (l : Int) - x.size < 0 := by omega
          have hr : szR (ks.length + strWts ks) left = -1 := by
            have h1 := HL.out
            have h2 := HW.out
            have h3 := H3.out
            unfold szR
            rw [if_neg (by omega)]
          have HR : Hid _ := hr
          clear hr
          go_wp2
          go_ret
          exact ⟨by rw [HR.out]; rfl, Below.refl _ _⟩
      · have hr : szR (ks.length + strWts ks) left = (l : Int) := by
          have h1 := HL.out
          rw [List.take_of_length_le (by omega)] at h1
          unfold szR
          rw [if_pos (by omega)]
          omega
        have HR : Hid _ := hr
        clear hr
        go_wp2
        go_ret
        exact ⟨by rw [HR.out]; rfl, Below.refl _ _⟩
  · have hr : szR (ks.length + strWts ks) left = -1 := by unfold szR; rw [if_neg (by omega)]
    rw [hr]
    go_enter Tryz.func16, Tryz.ntmps16
    go_wp2
    go_ret
    exact ⟨rfl, Below.refl _ _⟩

/-- how much a Db is -/
def dbWt (cs : List Cla) (xs : List ByteArray) : Nat := (cs.length + claWts cs) + (xs.length + strWts xs)
set_option maxRecDepth 20000 in
theorem sz_db (cs : List Cla) (xs : List ByteArray) (w : World) (c0 c1 : Value) (left : Nat) (h : ClsIn w cs c0) (hx : SsIn w xs c1) (hl : left ≤ 1048576) :
    Calls Tryz.prog 4 #[.agg #[c0, c1], .int .i64 (left : Int)] w fun e w' => e = .returned (.int .i64 (szR (dbWt cs xs) left)) ∧ Below w.heap.size w w' := by
  unfold dbWt
  obtain ⟨W, hW⟩ : ∃ W, W = w.alloc (.cells #[c0, c1] 25) := ⟨_, rfl⟩
  have bW : Below w.heap.size w W := by rw [hW]; exact (Below.refl _ _).alloc (Nat.le_refl _) _
  have k1' : W.heap[w.heap.size]? = some (.cells #[c0, c1] 25 (0, 0)) := by rw [hW]; exact heap_alloc_new w _
  have HK : Hid (∀ w1, Below W.heap.size W w1 → w1.heap[w.heap.size]? = some (.cells #[c0, c1] 25 (0, 0))) := fun w1 hb => (hb.block _ (Array.getElem?_eq_some_iff.1 k1').1).trans k1'
  have HBW : Hid (Below w.heap.size w W) := bW
  have HS1 := sz_clauses cs W c0 left (h.keep bW) hl
  have HS2 : ∀ (w1 : World) (l : Nat), Below W.heap.size W w1 → l ≤ 1048576 → Calls Tryz.prog 16 #[c1, .int .i64 (l : Int)] w1 fun e w' => e = .returned (.int .i64 (szR (xs.length + strWts xs) l)) ∧ Below w1.heap.size w1 w' := fun w1 l hb hl2 => sz_strs xs w1 _ l ((hx.keep bW).keep hb) hl2
  obtain ⟨a1, p1, rfl, -⟩ := h
  obtain ⟨a2, p2, rfl, -⟩ := hx
  clear bW k1'
  generalize cs.length + claWts cs = m1 at *
  generalize xs.length + strWts xs = m2 at *
  generalize cs.length = q1 at *
  generalize xs.length = q2 at *
  by_cases c1' : m1 ≤ left
  · rw [show szR m1 left = ((left - m1 : Nat) : Int) from if_pos c1'] at HS1
    obtain ⟨l1, hl1⟩ : ∃ l1, l1 = left - m1 := ⟨_, rfl⟩
    rw [← hl1] at HS1
    have hn1 : ¬ (l1 : Int) < 0 := by omega
    have HS1' : Hid _ := HS1
    have HS3 : ∀ w1, Below W.heap.size W w1 → _ := fun w1 hb => HS2 w1 l1 hb (by omega)
    by_cases c2' : m2 ≤ l1
    · rw [show szR m2 l1 = ((l1 - m2 : Nat) : Int) from if_pos c2'] at HS3
      have HR : Hid (szR (m1 + m2) left = ((l1 - m2 : Nat) : Int)) := by
        show _ = _
        rw [show szR (m1 + m2) left = ((left - (m1 + m2) : Nat) : Int) from if_pos (by omega)]
        omega
      obtain ⟨l2, hl2⟩ : ∃ l2, l2 = l1 - m2 := ⟨_, rfl⟩
      rw [← hl2] at HS3 HR
      have hn2 : ¬ (l2 : Int) < 0 := by omega
      have HS3' : Hid _ := HS3
      clear HS1 HS2 HS3 c1' c2' hl1 hl2 hl
      rw [HR.out]
      go_enter Tryz.func4, Tryz.ntmps4
      go_upto_region 1 with fail
      rw [← hW]
      clear hW
      have z0 := blk_cell (i := 0) (HK.out W (Below.refl _ _)) (by simp)
      have z1 := blk_cell (i := 1) (HK.out W (Below.refl _ _)) (by simp)
      go_upto_region 4 with (go_at_call 15; refine (Calls.mono HS1'.out ?_); rintro e w1 ⟨rfl, hb⟩; have HB1 : Hid (Below W.heap.size W w1) := hb; clear hb)
      clear z0 z1
      have z1 := blk_cell (i := 1) (HK.out w1 HB1.out) (by simp)
      have HS4 : Hid _ := HS3'.out w1 HB1.out
      go_wp2_with (go_at_call 16; refine (Calls.mono HS4.out ?_); rintro e w2 ⟨rfl, hb⟩; have HB2 : Hid (Below W.heap.size W w2) := HB1.out.trans (hb.mono HB1.out.size); clear hb)
      go_ret
      exact ⟨rfl, HBW.out.trans (HB2.out.mono HBW.out.size)⟩
    · have HR : Hid (szR (m1 + m2) left = -1) := if_neg (by omega)
      rw [show szR m2 l1 = -1 from if_neg c2'] at HS3
      have HS3' : Hid _ := HS3
      clear HS1 HS2 HS3 c1' c2' hl1 hl
      rw [HR.out]
      go_enter Tryz.func4, Tryz.ntmps4
      go_upto_region 1 with fail
      rw [← hW]
      clear hW
      have z0 := blk_cell (i := 0) (HK.out W (Below.refl _ _)) (by simp)
      have z1 := blk_cell (i := 1) (HK.out W (Below.refl _ _)) (by simp)
      go_upto_region 4 with (go_at_call 15; refine (Calls.mono HS1'.out ?_); rintro e w1 ⟨rfl, hb⟩; have HB1 : Hid (Below W.heap.size W w1) := hb; clear hb)
      clear z0 z1
      have z1 := blk_cell (i := 1) (HK.out w1 HB1.out) (by simp)
      have HS4 : Hid _ := HS3'.out w1 HB1.out
      go_wp2_with (go_at_call 16; refine (Calls.mono HS4.out ?_); rintro e w2 ⟨rfl, hb⟩; have HB2 : Hid (Below W.heap.size W w2) := HB1.out.trans (hb.mono HB1.out.size); clear hb)
      go_ret
      exact ⟨rfl, HBW.out.trans (HB2.out.mono HBW.out.size)⟩
  · have HR : Hid (szR (m1 + m2) left = -1) := if_neg (by omega)
    rw [show szR m1 left = -1 from if_neg c1'] at HS1
    have HS1' : Hid _ := HS1
    clear HS1 HS2 c1' hl
    rw [HR.out]
    go_enter Tryz.func4, Tryz.ntmps4
    go_upto_region 1 with fail
    rw [← hW]
    clear hW
    have z0 := blk_cell (i := 0) (HK.out W (Below.refl _ _)) (by simp)
    go_wp2_with (go_at_call 15; refine (Calls.mono HS1'.out ?_); rintro e w1 ⟨rfl, hb⟩; have HB1 : Hid (Below W.heap.size W w1) := hb; clear hb)
    go_ret
    exact ⟨rfl, HBW.out.trans (HB1.out.mono HBW.out.size)⟩
end Go.Proofs.YtmhmlkdoaojimapGreatDoor

/- laws.markTermS: what is marked is owned as before, and nothing else has turned. -/
namespace Go.Proofs.YtmhmlkdoaojimapGreatDoor
open Go.RowKit

def Tm.kids : Tm → List Tm
  | .mk _ _ _ ks => ks

def MarkOk (ks : List Tm) : Prop := ∀ (w : World) (sl : Value) (F : List Nat) (c : Nat), OwnS 41 w ks sl F → F.Nodup → 0 < c → c + 3 * ns ks ≤ 2305843009213693952 →
  Calls Tryz.prog 49 #[sl, .int .i64 (c : Int)] w fun e w' => e = .returned (.int .i64 ((c + 3 * ns ks : Nat) : Int)) ∧ OwnS 41 w' (markL ks c) sl F ∧ Out F w w'

theorem take_setL {cur : Array Value} {m i : Nat} {v : Value} : (cur.setIfInBounds i v).toList.take m = (cur.toList.take m).set i v := by
  rw [Array.toList_setIfInBounds, List.take_set]

theorem set3 {cs1 cs' : List Value} {c0 c1 c2 c3 d0 d1 d2 : Value} {i : Nat} (h : cs1.length = i) :
    (((cs1 ++ c0 :: c1 :: c2 :: c3 :: cs').set i d0).set (i + 1) d1).set (i + 2) d2 = cs1 ++ d0 :: d1 :: d2 :: c3 :: cs' := by
  subst h
  rw [List.set_append_right _ _ (by omega), List.set_append_right _ _ (by omega), List.set_append_right _ _ (by omega)]
  simp [show cs1.length + 1 - cs1.length = 1 by omega, show cs1.length + 2 - cs1.length = 2 by omega]

/-- the row of terms in block g, its kids' rows in F -/
def RowAt (e : TypeId) (w : World) (g cap : Nat) (ks : List Tm) (F : List Nat) : Prop :=
  ∃ cs cur, w.heap[g]? = some (.cells cur e (0, 0)) ∧ ks.length ≤ cap ∧ cap ≤ maxLen ∧ cur.size = cap * 4 ∧ cur.toList.take (ks.length * 4) = cs ∧ OwnRow e w ks cs F
theorem RowAt.own {e : TypeId} {w : World} {g cap : Nat} {ks : List Tm} {F : List Nat} (h : RowAt e w g cap ks F) : OwnS e w ks (.slice (some ⟨g, 0, none⟩) ks.length cap) (g :: F) := by
  obtain ⟨cs, cur, h1, h2, h3, h4, h5, h6⟩ := h
  exact Or.inr ⟨g, cap, cs, F, rfl, ⟨OwnRow.len _ _ _ h6, Or.inr ⟨g, cap, cur, rfl, Nat.zero_le _, h1, h2, h3, h4, h5⟩⟩, rfl, h6⟩
theorem RowAt.of {e : TypeId} {w : World} {g cap : Nat} {ks : List Tm} {cs : List Value} {F : List Nat} (hrow : w.ownsRow 0 e 4 (.slice (some ⟨g, 0, none⟩) ks.length cap) ks.length cs) (hr : OwnRow e w ks cs F) : RowAt e w g cap ks F := by
  rcases hrow.2 with ⟨h, _⟩ | ⟨g', cap', cur, h1, hz, hh, hnc, hcm, hcs, htk⟩
  · cases h
  · cases h1
    exact ⟨cs, cur, hh, hnc, hcm, hcs, htk, hr⟩

set_option maxHeartbeats 4000000 in
set_option maxRecDepth 20000 in
theorem mark_list (ks : List Tm) (hks : ∀ t ∈ ks, MarkOk t.kids) : MarkOk ks := by
  intro w sl F c hown hnd hc0 hcm
  have hown0 := hown
  rcases hown with ⟨rfl, rfl, rfl⟩ | ⟨g, cap, cs, F', rfl, hrow, rfl, hr⟩
  · have HO : Hid (OwnS 41 w [] (.slice none 0 0) []) := hown0
    clear hown0 hks
    go_enter Tryz.func49, Tryz.ntmps49
    go_wp2
    refine wp_loop_rounds 1 ?_
    rw [rounds_succ]
    go_wp2
    go_ret
    exact ⟨by simp [ns, Tm.n.ns], by rw [markL_nil]; exact HO.out, Out.refl _ _⟩
  · have hra := RowAt.of hrow hr
    have hcap : ks.length ≤ cap ∧ cap ≤ maxLen := by
      obtain ⟨_, _, _, h2, h3, _⟩ := hra
      exact ⟨h2, h3⟩
    unfold maxLen at hcap
    obtain ⟨hcl, hcm2⟩ := hcap
    have HO : Hid _ := hra
    have HND : Hid _ := hnd
    have HKS : Hid _ := hks
    clear hown0 hks hrow hr hnd hra
    have HBD : Hid (∀ j, c + 3 * ns (ks.take j) ≤ c + 3 * ns ks) := fun j => by
      have : ns (ks.take j) + ns (ks.drop j) = ns ks := by rw [← ns_append, List.take_append_drop]
      omega
    go_enter Tryz.func49, Tryz.ntmps49
    go_wp2
    go_loopw [1, 5] (fun vk vi wr => Hid (Out (g :: F') w wr) ∧ ∃ (j cj : Nat), j ≤ ks.length ∧ vi = .int .i64 (j : Int) ∧ vk = .int .i64 (cj : Int) ∧ Hid (cj = c + 3 * ns (ks.take j)) ∧ Hid (RowAt 41 wr g cap (markL (ks.take j) c ++ ks.drop j) F')) (fun _ i _ => ks.length - (intOf i).toNat)
    case atStart => exact ⟨Out.refl _ _, 0, c, by omega, rfl, rfl, by show _ = _; simp [ns, Tm.n.ns], by show RowAt _ _ _ _ _ _; rw [List.take_zero, markL_nil]; exact HO.out⟩
    case round =>
      obtain ⟨HB, j, cj, hj, rfl, rfl, HCJ, HOJ⟩ := hrel
      have hcjm : cj ≤ 2305843009213693952 := by have := HCJ.out; have := HBD.out j; omega
      have hcj0 : 0 < cj := by have := HCJ.out; omega
      by_cases hlt : j < ks.length
      · obtain ⟨cs, cur, hblk, hnc, hcpm, hcs, htk, hr⟩ := HOJ.out
        have hlen : (markL (ks.take j) c ++ ks.drop j).length = ks.length := by rw [List.length_append, markL_len, ← List.length_append, List.take_append_drop]
        rw [hlen] at hnc htk
        rw [List.drop_eq_getElem_cons hlt] at hr
        obtain ⟨cs1, cs2, G1, G2, rfl, rfl, hr1, hr2⟩ := OwnRow.split _ _ _ _ hr
        unfold OwnRow at hr2
        obtain ⟨c0, c1, c2, c3, cs', G3, G4, rfl, rfl, hr3, hr4⟩ := hr2
        obtain ⟨kj, hkj⟩ : ∃ kj, kj = ks[j] := ⟨_, rfl⟩
        have hl1 : cs1.length = j * 4 := by rw [OwnRow.len _ _ _ hr1, markL_len, List.length_take]; congr 1; omega
        have hK1 : MarkOk ks[j].kids := HKS.out ks[j] (List.getElem_mem hlt)
        rw [← hkj] at hr3 hK1
        obtain ⟨k1, s1, n1, kids⟩ := kj
        obtain ⟨sl1, he, hs1⟩ := own_open hr3
        obtain ⟨rfl, rfl, rfl, rfl⟩ : c0 = .int .i64 k1 ∧ c1 = .string s1 ∧ c2 = .int .i64 n1 ∧ c3 = sl1 := by simpa using he
        have hK : kids = ks[j].kids := by rw [← hkj]; rfl
        have hKn : ks[j].n = 1 + ns kids := by rw [← hkj, n_mk]
        clear he
        have hsz : j * 4 + 3 < cur.size := by omega
        have HAT : Hid (∀ i, i < 4 → cur[j * 4 + i]? = [Value.int .i64 k1, .string s1, .int .i64 n1, c3][i]?) := fun i hi => by
          have h1 : (cur.toList.take (ks.length * 4))[j * 4 + i]? = [Value.int .i64 k1, .string s1, .int .i64 n1, c3][i]? := by
            rw [htk, List.getElem?_append_right (by omega), hl1, show j * 4 + i - j * 4 = i by omega]
            match i, hi with
            | 0, _ => rfl
            | 1, _ => rfl
            | 2, _ => rfl
            | 3, _ => rfl
          rw [List.getElem?_take_of_lt (by omega)] at h1
          simpa using h1
        obtain ⟨ao1, len1, cap1, rfl⟩ : ∃ ao1 len1 cap1, c3 = .slice ao1 len1 cap1 := by
          rcases hs1 with ⟨rfl, _⟩ | ⟨g1, cp1, _, _, rfl, _⟩
          · exact ⟨_, _, _, rfl⟩
          · exact ⟨_, _, _, rfl⟩
        have hgF : (g :: (G1 ++ (G3 ++ G4))).Nodup := HND.out
        rw [List.nodup_cons] at hgF
        obtain ⟨hgn, hFn⟩ := hgF
        have hglt : g < wr.heap.size := (Array.getElem?_eq_some_iff.1 hblk).1
        have a0 : wr.cell? ⟨g, j * 4, none⟩ = some (.int .i64 k1) := by
          have := HAT.out 0 (by omega)
          unfold World.cell?; rw [hblk]; simpa using this
        have f0 : wr.frozen? ⟨g, j * 4, none⟩ = false := blk_frozen hblk _
        obtain ⟨WA, hWA⟩ : ∃ WA, WA = wr.setCell ⟨g, j * 4, none⟩ (.int .i64 (cj : Int)) := ⟨_, rfl⟩
        have blkA : WA.heap[g]? = some (.cells (cur.setIfInBounds (j * 4) (.int .i64 (cj : Int))) 41 (0, 0)) := by rw [hWA]; exact blk_set hblk _
        have hszA : WA.heap.size = wr.heap.size := by rw [hWA]; simp [World.setCell]
        obtain ⟨mt, hmt⟩ : ∃ mt : ByteArray, mt = ⟨(mkS (cj + 1)).toArray⟩ := ⟨_, rfl⟩
        have HMK : Hid (Calls Tryz.prog 48 #[.int .i64 ((cj : Int) + 1)] (wr.setCell ⟨g, j * 4, none⟩ (.int .i64 (cj : Int))) fun e w' => e = .returned (.string mt) ∧ Below WA.heap.size WA w') := by
          have := mark_any (cj + 1) WA (by omega) (by omega)
          rw [← hWA, hmt]
          rwa [show ((cj + 1 : Nat) : Int) = (cj : Int) + 1 by omega] at this
        have HP : Hid (∀ w1, Below WA.heap.size WA w1 → w1.heap[g]? = some (.cells (cur.setIfInBounds (j * 4) (.int .i64 (cj : Int))) 41 (0, 0)) ∧ (w1.setCell ⟨g, j * 4 + 1, none⟩ (.string mt)).heap[g]? = some (.cells ((cur.setIfInBounds (j * 4) (.int .i64 (cj : Int))).setIfInBounds (j * 4 + 1) (.string mt)) 41 (0, 0)) ∧ ((w1.setCell ⟨g, j * 4 + 1, none⟩ (.string mt)).setCell ⟨g, j * 4 + 2, none⟩ (.int .i64 ((cj : Int) + 1 + 1))).heap[g]? = some (.cells (((cur.setIfInBounds (j * 4) (.int .i64 (cj : Int))).setIfInBounds (j * 4 + 1) (.string mt)).setIfInBounds (j * 4 + 2) (.int .i64 ((cj : Int) + 1 + 1))) 41 (0, 0))) := fun w1 hb1 => by
          have blk1 := (hb1.block g (by omega)).trans blkA
          have blk2 := blk_set (i := j * 4 + 1) blk1 (.string mt)
          exact ⟨blk1, blk2, blk_set (i := j * 4 + 2) blk2 (.int .i64 ((cj : Int) + 1 + 1))⟩
        have HF : Hid (∀ w1, Below WA.heap.size WA w1 → w1.cell? ⟨g, j * 4 + 1, none⟩ = some (.string s1) ∧ w1.frozen? ⟨g, j * 4 + 1, none⟩ = false ∧ (w1.setCell ⟨g, j * 4 + 1, none⟩ (.string mt)).cell? ⟨g, j * 4 + 2, none⟩ = some (.int .i64 n1) ∧ (w1.setCell ⟨g, j * 4 + 1, none⟩ (.string mt)).frozen? ⟨g, j * 4 + 2, none⟩ = false ∧ ((w1.setCell ⟨g, j * 4 + 1, none⟩ (.string mt)).setCell ⟨g, j * 4 + 2, none⟩ (.int .i64 ((cj : Int) + 1 + 1))).cell? ⟨g, j * 4 + 3, none⟩ = some (.slice ao1 len1 cap1)) := fun w1 hb1 => by
          obtain ⟨blk1, blk2, blk3⟩ := HP.out w1 hb1
          refine ⟨?_, blk_frozen blk1 _, ?_, blk_frozen blk2 _, ?_⟩
          · have := HAT.out 1 (by omega)
            unfold World.cell?; rw [blk1]
            show (cur.setIfInBounds (j * 4) _)[j * 4 + 1]? = _
            rw [Array.getElem?_setIfInBounds, if_neg (by omega)]
            simpa using this
          · have := HAT.out 2 (by omega)
            unfold World.cell?; rw [blk2]
            show ((cur.setIfInBounds (j * 4) _).setIfInBounds (j * 4 + 1) _)[j * 4 + 2]? = _
            rw [Array.getElem?_setIfInBounds, if_neg (by omega), Array.getElem?_setIfInBounds, if_neg (by omega)]
            simpa using this
          · have := HAT.out 3 (by omega)
            unfold World.cell?; rw [blk3]
            show (((cur.setIfInBounds (j * 4) _).setIfInBounds (j * 4 + 1) _).setIfInBounds (j * 4 + 2) _)[j * 4 + 3]? = _
            rw [Array.getElem?_setIfInBounds, if_neg (by omega), Array.getElem?_setIfInBounds, if_neg (by omega), Array.getElem?_setIfInBounds, if_neg (by omega)]
            simpa using this
        have HSAME : Hid (∀ w1, Below WA.heap.size WA w1 → ∀ f, f < wr.heap.size → f ≠ g → ((w1.setCell ⟨g, j * 4 + 1, none⟩ (.string mt)).setCell ⟨g, j * 4 + 2, none⟩ (.int .i64 ((cj : Int) + 1 + 1))).heap[f]? = wr.heap[f]?) := fun w1 hb1 f hf hne => by
          rw [blk_other _ hne, blk_other _ hne, hb1.block f (by omega), hWA, blk_other _ hne]
        have HG3 : Hid (∀ f ∈ G3, f < wr.heap.size ∧ f ≠ g) := fun f hf => ⟨Own.lt _ _ _ hr3 f hf, fun e => hgn (by rw [← e]; simp [hf])⟩
        have hbd3 : cj + 3 + 3 * ns kids ≤ 2305843009213693952 := by
          have h1 := HCJ.out
          have h2 := HBD.out (j + 1)
          rw [List.take_succ_eq_append_getElem hlt, ns_append, show ns [ks[j]] = ks[j].n by simp [ns, Tm.n.ns], hKn] at h2
          omega
        have hnd3 : G3.Nodup := by
          rw [List.nodup_append] at hFn
          have := hFn.2.1
          rw [List.nodup_append] at this
          exact this.1
        have HREC : Hid (∀ w1, Below WA.heap.size WA w1 → Calls Tryz.prog 49 #[.slice ao1 len1 cap1, .int .i64 ((cj : Int) + 1 + 1 + 1)] ((w1.setCell ⟨g, j * 4 + 1, none⟩ (.string mt)).setCell ⟨g, j * 4 + 2, none⟩ (.int .i64 ((cj : Int) + 1 + 1))) fun e w' => e = .returned (.int .i64 ((cj + 3 + 3 * ns kids : Nat) : Int)) ∧ OwnS 41 w' (markL kids (cj + 3)) (.slice ao1 len1 cap1) G3 ∧ Out G3 ((w1.setCell ⟨g, j * 4 + 1, none⟩ (.string mt)).setCell ⟨g, j * 4 + 2, none⟩ (.int .i64 ((cj : Int) + 1 + 1))) w') := fun w1 hb1 => by
          have this : MarkOk kids := hK1
          have h2 := this ((w1.setCell ⟨g, j * 4 + 1, none⟩ (.string mt)).setCell ⟨g, j * 4 + 2, none⟩ (.int .i64 ((cj : Int) + 1 + 1))) (.slice ao1 len1 cap1) G3 (cj + 3) (hs1.keep fun f hf => HSAME.out w1 hb1 f (HG3.out f hf).1 (HG3.out f hf).2) hnd3 (by omega) hbd3
          rwa [show ((cj + 3 : Nat) : Int) = (cj : Int) + 1 + 1 + 1 by omega] at h2
        have HNX : Hid (∀ w1 w4, Below WA.heap.size WA w1 → OwnS 41 w4 (markL kids (cj + 3)) (.slice ao1 len1 cap1) G3 → Out G3 ((w1.setCell ⟨g, j * 4 + 1, none⟩ (.string mt)).setCell ⟨g, j * 4 + 2, none⟩ (.int .i64 ((cj : Int) + 1 + 1))) w4 → RowAt 41 w4 g cap (markL (ks.take (j + 1)) c ++ ks.drop (j + 1)) (G1 ++ (G3 ++ G4)) ∧ Out (g :: (G1 ++ (G3 ++ G4))) w w4) := fun w1 w4 hb1 ho4 hou => by
          obtain ⟨blk1, blk2, blk3⟩ := HP.out w1 hb1
          have hsz3 : (((w1.setCell ⟨g, j * 4 + 1, none⟩ (.string mt)).setCell ⟨g, j * 4 + 2, none⟩ (.int .i64 ((cj : Int) + 1 + 1)))).heap.size = w1.heap.size := by simp [World.setCell]
          have hszw : wr.heap.size ≤ w1.heap.size := by have := hb1.size; omega
          have hg3 : g ∉ G3 := fun h => hgn (by simp [h])
          have blk4 := (hou.block g (by omega) hg3).trans blk3
          have hoth : ∀ f, f < wr.heap.size → f ≠ g → f ∉ G3 → w4.heap[f]? = wr.heap[f]? := fun f hf hne hn => (hou.block f (by omega) hn).trans (HSAME.out w1 hb1 f hf hne)
          have hlist : markL (ks.take (j + 1)) c ++ ks.drop (j + 1) = markL (ks.take j) c ++ ((Tm.mk k1 s1 n1 kids).markT cj :: ks.drop (j + 1)) := by
            rw [List.take_succ_eq_append_getElem hlt, markL_append, markL_cons, markL_nil, hkj, HCJ.out]
            simp
          rw [List.nodup_append] at hFn
          obtain ⟨_, hn2, hdis⟩ := hFn
          rw [List.nodup_append] at hn2
          obtain ⟨_, _, hdis2⟩ := hn2
          refine ⟨?_, ?_⟩
          · refine ⟨cs1 ++ Value.int .i64 (cj : Int) :: .string mt :: .int .i64 ((cj : Int) + 1 + 1) :: .slice ao1 len1 cap1 :: cs', _, blk4, ?_, hcpm, ?_, ?_, ?_⟩
            · rw [List.length_append, markL_len, ← List.length_append, List.take_append_drop]; exact hnc
            · simp only [Array.size_setIfInBounds]; exact hcs
            · rw [List.length_append, markL_len, ← List.length_append, List.take_append_drop, take_setL, take_setL, take_setL, htk]
              exact set3 hl1
            · rw [hlist]
              refine OwnRow.join _ _ _ _ _ _ (OwnRow.keep _ _ _ hr1 fun f hf => hoth f (OwnRow.lt _ _ _ hr1 f hf) (fun e => hgn (by rw [← e]; simp [hf])) (fun h3 => hdis f hf f (by simp [h3]) rfl)) ?_
              unfold OwnRow
              refine ⟨_, _, _, _, cs', G3, G4, rfl, rfl, ?_, OwnRow.keep _ _ _ hr4 fun f hf => hoth f (OwnRow.lt _ _ _ hr4 f hf) (fun e => hgn (by rw [← e]; simp [hf])) (fun h3 => hdis2 f h3 f hf rfl)⟩
              rw [markT_mk, ← hmt, show (cj : Int) + 1 + 1 = ((cj + 2 : Nat) : Int) by omega]
              refine own_mk ho4 (by omega) (by omega) ?_
              have := mkS_len (cj + 1) (by omega)
              rw [hmt]
              show (mkS (cj + 1)).toArray.size ≤ maxLen
              unfold maxLen
              simp only [List.size_toArray]
              omega
          · have hg : g ∈ g :: (G1 ++ (G3 ++ G4)) := by simp
            have o1 : Out (g :: (G1 ++ (G3 ++ G4))) wr WA := by rw [hWA]; exact Out.set hg _ _ _
            exact HB.out.trans (o1.trans ((Out.of_below hb1).trans ((Out.set hg _ _ _).trans ((Out.set hg _ _ _).trans (hou.mono fun f hf => by simp [hf])))))
        have HNC : Hid (cj + 3 + 3 * ns kids = c + 3 * ns (ks.take (j + 1))) := by
          show _ = _
          rw [List.take_succ_eq_append_getElem hlt, ns_append, show ns [ks[j]] = ks[j].n by simp [ns, Tm.n.ns], hKn, HCJ.out]
          omega
        clear blkA hblk hnc hcpm hcs htk hr hr1 hr3 hr4 hK1 hs1 hK hKn hlen hkj hgn hFn hnd3 HAT HP HSAME HG3 HKS HO HND HOJ HBD hWA hmt
        go_wp2_with (first | (go_at_call 48; refine (Calls.mono HMK.out ?_); rintro e w1 ⟨rfl, hb1⟩; have HB1 : Hid _ := hb1; obtain ⟨q1, q2, q3, q4, q5⟩ := HF.out w1 hb1; clear hb1) | (go_at_call 49; refine (Calls.mono (HREC.out w1 HB1.out) ?_); rintro e w4 ⟨rfl, ho4, hou⟩; have HN4 : Hid _ := HNX.out w1 w4 HB1.out ho4 hou; clear ho4 hou))
        go_roundw
        case rel => exact ⟨HN4.out.2, j + 1, cj + 3 + 3 * ns kids, by omega, by go_num, rfl, HNC.out, HN4.out.1⟩
        case measure => simp [intOf]; omega
      · have HE : Hid (OwnS 41 wr (markL ks c) (.slice (some ⟨g, 0, none⟩) ks.length cap) (g :: F')) := by
          have := HOJ.out.own
          rw [List.length_append, markL_len, ← List.length_append, List.take_append_drop, List.take_of_length_le (by omega), List.drop_eq_nil_of_le (by omega), List.append_nil] at this
          exact this
        have HC2 : Hid (cj = c + 3 * ns ks) := by
          have := HCJ.out
          rw [List.take_of_length_le (by omega)] at this
          exact this
        clear HCJ HOJ HO HKS HND HBD
        go_wp2
        go_ret
        exact ⟨by rw [← HC2.out]; rfl, HE.out, HB.out⟩

theorem mark_all (ks : List Tm) : MarkOk ks :=
  tm_ind (p := fun t => MarkOk t.kids) (fun _ _ _ ks h => mark_list ks h) (Tm.mk 0 ⟨#[]⟩ 0 ks)
end Go.Proofs.YtmhmlkdoaojimapGreatDoor

/- laws.markTerm: what is marked is owned as before, and nothing else has turned. -/
namespace Go.Proofs.YtmhmlkdoaojimapGreatDoor
open Go.RowKit

/-- a term whose kids are marked -/
def Tm.markK : Tm → Nat → Tm
  | .mk k s n ks, c => .mk k s n (markL ks c)

set_option maxRecDepth 20000 in
theorem mark_term (t : Tm) (w : World) (v : Value) (F : List Nat) (c : Nat) (h : Own 41 w t v F) (hnd : F.Nodup) (hc : 0 < c) (hb : c + 3 * ns t.kids ≤ 2305843009213693952) :
    Calls Tryz.prog 31 #[v, .int .i64 (c : Int)] w fun e w' => e = .returned (.int .i64 ((c + 3 * ns t.kids : Nat) : Int)) ∧ Own 41 w' (t.markK c) v F ∧ Out F w w' := by
  obtain ⟨k, s, n, ks⟩ := t
  have hlt := Own.lt _ _ _ h
  have hbd : (-9223372036854775808 ≤ k ∧ k ≤ 9223372036854775807) ∧ (-9223372036854775808 ≤ n ∧ n ≤ 9223372036854775807) ∧ s.size ≤ maxLen := by
    unfold Own at h
    obtain ⟨_, _, h1, h2, h3, _⟩ := h
    exact ⟨h1, h2, h3⟩
  obtain ⟨sl, rfl, ho⟩ := own_open h
  obtain ⟨ao1, len1, cap1, rfl⟩ : ∃ ao1 len1 cap1, sl = .slice ao1 len1 cap1 := by
    rcases ho with ⟨rfl, _⟩ | ⟨g1, cp1, _, _, rfl, _⟩
    · exact ⟨_, _, _, rfl⟩
    · exact ⟨_, _, _, rfl⟩
  obtain ⟨W, hW⟩ : ∃ W, W = w.alloc (.cells #[.int .i64 k, .string s, .int .i64 n, .slice ao1 len1 cap1] 41) := ⟨_, rfl⟩
  have hbW : Below w.heap.size w W := by rw [hW]; exact (Below.refl _ _).alloc (Nat.le_refl _) _
  have HC := mark_all ks W (.slice ao1 len1 cap1) F c (ho.keep fun f hf => hbW.block f (hlt f hf)) hnd hc hb
  rw [hW] at HC
  replace HC : Hid _ := HC
  have HBD : Hid _ := hbd
  have HBW : Hid _ := hbW
  clear h ho hlt hbd hnd hbW
  go_enter Tryz.func31, Tryz.ntmps31
  go_wp2_with (go_at_call 49; refine (Calls.mono HC.out ?_); rintro e w1 ⟨rfl, ho, hou⟩; rw [← hW] at hou; have HO : Hid _ := ho; have HU : Hid _ := hou; clear ho hou)
  go_ret
  exact ⟨rfl, own_mk HO.out HBD.out.1 HBD.out.2.1 HBD.out.2.2, (Out.of_below HBW.out).trans HU.out⟩
end Go.Proofs.YtmhmlkdoaojimapGreatDoor
