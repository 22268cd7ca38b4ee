/- Four texts in one. -/
import Derived.Test.YtmhmlkdoaojimapDoorMrg10
import Derived.Test.YtmhmlkdoaojimapDoorMrg9
import Derived.Test.YtmhmlkdoaojimapDoorMrg8
import Derived.Deep.DeepCutAuto
import Derived.ArgAppend
import Derived.Laws.OwnMore
import Derived.Test.YtmhmlkdoaojimapDoorMrg4
import Derived.Test.YtmhmlkdoaojimapDoorMrg6
import Derived.Test.YtmhmlkdoaojimapDoorRows
import Derived.Test.YtmhmlkdoaojimapDoorMrg2
import Derived.MapKept
import Derived.ProofKit
/- laws.eqDb of the same. -/
namespace Go.Proofs.YtmhmlkdoaojimapDoor
open Go.RowKit

theorem cell_of_row {w : World} {g : Nat} {cur : Array Value} {e : TypeId} {i : Nat} {v : Value} (h : w.heap[g]? = some (.cells cur e (0, 0))) (hi : cur[i]? = some v) : w.cell? ⟨g, i, none⟩ = some v := by
  unfold World.cell?
  simp only
  rw [h]
  exact hi

/-- a row of clauses of its own is one in memory -/
theorem OwnClS.toIn {ec e : TypeId} {w : World} {ks : List Cla} {sl : Value} {F : List Nat} (h : OwnClS ec e w ks sl F) : ClsIn w ks sl := by
  rcases h with ⟨rfl, rfl, rfl⟩ | ⟨g, cap, cs, F', rfl, h5, rfl, h6⟩
  · exact ⟨none, 0, rfl, Nat.le_refl _, Nat.zero_le _, fun h => absurd rfl h⟩
  · obtain ⟨hl, h5⟩ := h5
    rcases h5 with ⟨h5, _⟩ | ⟨g', cap', cur, e', _, hblk, hc1, hc2, hc3, hc4⟩
    · cases h5
    · simp only [Value.slice.injEq, Option.some.injEq, Addr.mk.injEq, and_true, true_and] at e'
      obtain ⟨rfl, rfl⟩ := e'
      refine ⟨_, cap, rfl, hc1, hc2, fun _ => ⟨g, 0, rfl, fun j hj => ?_⟩⟩
      obtain ⟨F1, ⟨k1, s1, n1, a1, l1, m1, k2, s2, n2, a2, l2, m2, F2, F3, hcc, _, hf, o1, o2⟩, _⟩ := h6.at j hj
      have hat : ∀ i, i < 9 → ∀ v, ((cs.drop (j * 9)).take 9)[i]? = some v → w.cell? ⟨g, 0 + j * 9 + i, none⟩ = some v := fun i hi v hv => by
        refine cell_of_row hblk ?_
        rw [List.getElem?_take, if_pos hi, List.getElem?_drop, ← hc4, List.getElem?_take] at hv
        split at hv
        · rw [Nat.zero_add]; simpa using hv
        · cases hv
      rw [hcc] at hat
      exact ⟨k1, s1, n1, a1, l1, m1, k2, s2, n2, a2, l2, m2, hat 0 (by omega) _ rfl, hat 1 (by omega) _ rfl, hat 2 (by omega) _ rfl, hat 3 (by omega) _ rfl, hat 4 (by omega) _ rfl, hat 5 (by omega) _ rfl, hat 6 (by omega) _ rfl, hat 7 (by omega) _ rfl, hat 8 (by omega) _ rfl, hf, Own.toIn _ _ _ o1, Own.toIn _ _ _ o2⟩

theorem owns_shape {w : World} {B e size n : Nat} {v : Value} {xs : List Value} (h : w.ownsRow B e size v n xs) : ∃ ao l c, v = .slice ao l c := by
  rcases h.2 with ⟨rfl, _⟩ | ⟨g, cap, cur, rfl, _⟩
  · exact ⟨_, _, _, rfl⟩
  · exact ⟨_, _, _, rfl⟩

set_option maxRecDepth 20000 in
theorem eq_db (cs : List Cla) (xs : List (List UInt8)) (w : World) (sa ta sb tb : Value) (ha : ClsIn w cs sa) (hb : ClsIn w cs sb) (hl : xs.length ≤ 1100000) (ga : w.ownsRow 0 9 1 ta xs.length (strsV xs)) (gb : w.ownsRow 0 9 1 tb xs.length (strsV xs)) :
    Calls Tryd.prog 11 #[.agg #[sa, ta], .agg #[sb, tb]] w fun e w' => e = .returned (.bool true) ∧ Below w.heap.size w w' := by
  obtain ⟨W, hW⟩ : ∃ W, W = (w.alloc (.cells #[sa, ta] 30)).alloc (.cells #[sb, tb] 30) := ⟨_, rfl⟩
  have bW : Below w.heap.size w W := by rw [hW]; exact ((Below.refl _ _).alloc (Nat.le_refl _) _).alloc (by simp) _
  have k1' : W.heap[w.heap.size]? = some (.cells #[sa, ta] 30 (0, 0)) := by rw [hW]; exact (alloc_old _ _ (by simp)).trans (alloc_at _ _ rfl)
  have k2' : W.heap[w.heap.size + 1]? = some (.cells #[sb, tb] 30 (0, 0)) := by rw [hW]; exact alloc_at _ _ (by simp)
  have HK : Hid (∀ w1, Below W.heap.size W w1 → w1.heap[w.heap.size]? = some (.cells #[sa, ta] 30 (0, 0)) ∧ w1.heap[w.heap.size + 1]? = some (.cells #[sb, tb] 30 (0, 0))) := fun w1 hb => ⟨(hb.block _ (Array.getElem?_eq_some_iff.1 k1').1).trans k1', (hb.block _ (Array.getElem?_eq_some_iff.1 k2').1).trans k2'⟩
  have HC1 : Hid _ := eq_clauses cs W sa sb (ha.keep bW) (hb.keep bW)
  have HC2 : Hid (∀ w1, Below W.heap.size W w1 → Calls Tryd.prog 35 #[ta, tb] w1 fun e w' => e = .returned (.bool true) ∧ Below w1.heap.size w1 w') := fun w1 h1 => eqS_same xs ta tb w1 hl (owns_below (owns_below ga bW) h1) (owns_below (owns_below gb bW) h1)
  have HBW : Hid (Below w.heap.size w W) := bW
  obtain ⟨a1, p1, rfl, -⟩ := ha
  obtain ⟨a2, p2, rfl, -⟩ := hb
  obtain ⟨a3, l3, p3, rfl⟩ := owns_shape ga
  obtain ⟨a4, l4, p4, rfl⟩ := owns_shape gb
  clear bW k1' k2' ga gb hl
  go_enter Tryd.func11, Tryd.ntmps11
  go_upto_region 1 with fail
  rw [← hW]
  clear hW
  have y0 := blk_cell (i := 0) (HK.out W (Below.refl _ _)).1 (by simp)
  have z0 := blk_cell (i := 0) (HK.out W (Below.refl _ _)).2 (by simp)
  go_upto_region 3 with (go_at_call 14; refine (Calls.mono HC1.out ?_); rintro e w1 ⟨rfl, hb⟩; have HB1 : Hid (Below W.heap.size W w1) := hb; clear hb)
  clear y0 z0
  have y0 := blk_cell (i := 1) (HK.out w1 HB1.out).1 (by simp)
  have z0 := blk_cell (i := 1) (HK.out w1 HB1.out).2 (by simp)
  have HC3 : Hid _ := HC2.out w1 HB1.out
  go_wp2_with (go_at_call 35; refine (Calls.mono HC3.out ?_); rintro e w2 ⟨rfl, hb⟩; have HB2 : Hid (Below W.heap.size W w2) := HB1.out.trans (hb.mono HB1.out.size); clear hb)
  go_ret
  exact ⟨rfl, HBW.out.trans (HB2.out.mono HBW.out.size)⟩
end Go.Proofs.YtmhmlkdoaojimapDoor

/- The cells of a row of clauses, wherever they lie; a row behind a new one. -/
namespace Go.Proofs.YtmhmlkdoaojimapDoor
open Go.RowKit

theorem row_keepB {w w' : World} {B e size n : Nat} {v : Value} {xs : List Value} (h : w.ownsRow B e size v n xs) (hb : ∀ b, v.ownBlock = some b → w'.heap[b]? = w.heap[b]?) : w'.ownsRow B e size v n xs := by
  rcases h.2 with ⟨rfl, hl⟩ | ⟨g, cap, cur, rfl, h1, hh, h2⟩
  · exact ⟨h.1, Or.inl ⟨rfl, hl⟩⟩
  · exact ⟨h.1, Or.inr ⟨g, cap, cur, rfl, h1, (hb g rfl).trans hh, h2⟩⟩

/-- nine cells each, and the terms that they tell -/
def ClsVals (w : World) (cs : List Cla) (news : List Value) : Prop :=
  news.length = cs.length * 9 ∧ ∀ j (hj : j < cs.length), ∃ k1 s1 n1 a1 l1 m1 k2 s2 n2 a2 l2 m2, (∀ r, r < 9 → news[j * 9 + r]? = [Value.int .i64 k1, .string s1, .int .i64 n1, .slice a1 l1 m1, .int .i64 k2, .string s2, .int .i64 n2, .slice a2 l2 m2, .string cs[j].f][r]?) ∧
    cs[j].f.size ≤ maxLen ∧ TmIn w cs[j].h (.agg #[.int .i64 k1, .string s1, .int .i64 n1, .slice a1 l1 m1]) ∧ TmIn w cs[j].b (.agg #[.int .i64 k2, .string s2, .int .i64 n2, .slice a2 l2 m2])
theorem ClsVals.keep {w w' : World} {cs : List Cla} {news : List Value} (h : ClsVals w cs news) (hb : Below w.heap.size w w') : ClsVals w' cs news := by
  refine ⟨h.1, fun j hj => ?_⟩
  obtain ⟨k1, s1, n1, a1, l1, m1, k2, s2, n2, a2, l2, m2, h1, h2, h3, h4⟩ := h.2 j hj
  exact ⟨k1, s1, n1, a1, l1, m1, k2, s2, n2, a2, l2, m2, h1, h2, TmIn.keep hb _ _ h3, TmIn.keep hb _ _ h4⟩

theorem cls_vals {w : World} {cs : List Cla} {v : Value} (h : ClsIn w cs v) : ∃ ao cap news, v = .slice ao cs.length cap ∧ cs.length ≤ cap ∧ cap ≤ maxLen ∧ ClsVals w cs news ∧ (cs ≠ [] → ∃ b off, ao = some ⟨b, off, none⟩ ∧ ∀ j z, news[j]? = some z → w.cell? ⟨b, off + j, none⟩ = some z) := by
  obtain ⟨ao, cap, rfl, h1, h2, h3⟩ := h
  by_cases h0 : cs = []
  · subst h0
    exact ⟨ao, cap, [], rfl, h1, h2, ⟨rfl, fun j hj => by simp at hj⟩, fun h => absurd rfl h⟩
  · obtain ⟨b, off, rfl, hr⟩ := h3 h0
    have hget : ∀ i, i < cs.length * 9 → ∃ z, w.cell? ⟨b, off + i, none⟩ = some z := fun i hi => by
      have hj : i / 9 < cs.length := by omega
      obtain ⟨k1, s1, n1, a1, l1, m1, k2, s2, n2, a2, l2, m2, q0, q1, q2, q3, q4, q5, q6, q7, q8, _⟩ := hr (i / 9) hj
      have hi9 : off + i = off + i / 9 * 9 + i % 9 := by omega
      have hm : i % 9 < 9 := Nat.mod_lt _ (by omega)
      rw [hi9]
      generalize i % 9 = r at hm
      match r, hm with
      | 0, _ => exact ⟨_, q0⟩
      | 1, _ => exact ⟨_, q1⟩
      | 2, _ => exact ⟨_, q2⟩
      | 3, _ => exact ⟨_, q3⟩
      | 4, _ => exact ⟨_, q4⟩
      | 5, _ => exact ⟨_, q5⟩
      | 6, _ => exact ⟨_, q6⟩
      | 7, _ => exact ⟨_, q7⟩
      | 8, _ => exact ⟨_, q8⟩
    have hnew : ∀ i, i < cs.length * 9 → ((List.range (cs.length * 9)).map fun i => (w.cell? ⟨b, off + i, none⟩).getD undef)[i]? = w.cell? ⟨b, off + i, none⟩ := fun i hi => by
      obtain ⟨z, hz⟩ := hget i hi
      rw [List.getElem?_map, List.getElem?_range hi, Option.map_some, hz]
      rfl
    refine ⟨_, cap, (List.range (cs.length * 9)).map fun i => (w.cell? ⟨b, off + i, none⟩).getD undef, rfl, h1, h2, ⟨by simp, fun j hj => ?_⟩, fun _ => ⟨b, off, rfl, fun i z hz => ?_⟩⟩
    · obtain ⟨k1, s1, n1, a1, l1, m1, k2, s2, n2, a2, l2, m2, q0, q1, q2, q3, q4, q5, q6, q7, q8, qf, q9, q10⟩ := hr j hj
      refine ⟨k1, s1, n1, a1, l1, m1, k2, s2, n2, a2, l2, m2, fun r hr9 => ?_, qf, q9, q10⟩
      rw [hnew _ (by omega), ← Nat.add_assoc]
      match r, hr9 with
      | 0, _ => exact q0
      | 1, _ => exact q1
      | 2, _ => exact q2
      | 3, _ => exact q3
      | 4, _ => exact q4
      | 5, _ => exact q5
      | 6, _ => exact q6
      | 7, _ => exact q7
      | 8, _ => exact q8
    · have hi : i < cs.length * 9 := by
        have := (List.getElem?_eq_some_iff.1 hz).1
        simpa using this
      rw [← hnew i hi]
      exact hz

theorem vals_in {w : World} {B : Nat} {cs : List Cla} {v : Value} {news : List Value} (h : w.ownsRow B 57 9 v cs.length news) (hv : ClsVals w cs news) : ClsIn w cs v := by
  rcases h.2 with ⟨rfl, hl⟩ | ⟨g, cap, cur, rfl, _, hh, hnc, hcm, hcs, htk⟩
  · exact ⟨none, 0, by rw [hl], by omega, by unfold maxLen; omega, fun hne => absurd (List.eq_nil_of_length_eq_zero hl) hne⟩
  · refine ⟨_, cap, rfl, hnc, hcm, fun _ => ⟨g, 0, rfl, fun j hj => ?_⟩⟩
    obtain ⟨k1, s1, n1, a1, l1, m1, k2, s2, n2, a2, l2, m2, h1, h2, h3, h4⟩ := hv.2 j hj
    have hat : ∀ r, r < 9 → ∀ z, [Value.int .i64 k1, .string s1, .int .i64 n1, .slice a1 l1 m1, .int .i64 k2, .string s2, .int .i64 n2, .slice a2 l2 m2, .string cs[j].f][r]? = some z → w.cell? ⟨g, 0 + j * 9 + r, none⟩ = some z := fun r hr z hz => by
      refine cell_of_row hh ?_
      rw [← h1 r hr, ← htk, List.getElem?_take] at hz
      split at hz
      · rw [Nat.zero_add]; simpa using hz
      · cases hz
    exact ⟨k1, s1, n1, a1, l1, m1, k2, s2, n2, a2, l2, m2, hat 0 (by omega) _ rfl, hat 1 (by omega) _ rfl, hat 2 (by omega) _ rfl, hat 3 (by omega) _ rfl, hat 4 (by omega) _ rfl, hat 5 (by omega) _ rfl, hat 6 (by omega) _ rfl, hat 7 (by omega) _ rfl, hat 8 (by omega) _ rfl, h2, h3, h4⟩

/-- all clauses behind a new row with no room: their cells alone -/
theorem app_clauses (cs : List Cla) (u : World) (sl : Value) (news : List Value) (ao : Option Addr) (cap : Nat) (g1 : Nat) (B : Nat) (hsl : sl = .slice ao cs.length cap) (hcap : cs.length ≤ cap) (hn : news.length = cs.length * 9) (hc : cs ≠ [] → ∃ b off, ao = some ⟨b, off, none⟩ ∧ ∀ j z, news[j]? = some z → u.cell? ⟨b, off + j, none⟩ = some z) (hl : cs.length ≤ 1048576) (hg1 : u.heap[g1]? = some (.cells #[] 57 (0, 0))) (hB : B ≤ g1) :
    ∃ v' u', (Builtin.append_ #[28, 28] 28 #[.slice (some ⟨g1, 0, none⟩) 0 0, sl]).run Tryd.prog u = .ok v' u' ∧ u'.ownsRow B 57 9 v' cs.length news ∧ Below u.heap.size u u' ∧ ∃ g c, v' = .slice (some ⟨g, 0, none⟩) cs.length c := by
  obtain ⟨i0, hi, hz0, hz1, hz2⟩ := info_parts infoC
  have hgl : g1 < u.heap.size := (Array.getElem?_eq_some_iff.1 hg1).1
  subst hsl
  by_cases h0 : cs = []
  · subst h0
    obtain rfl : news = [] := List.eq_nil_of_length_eq_zero (by simpa using hn)
    have hr0 : u.ownsRow B 57 9 (.slice (some ⟨g1, 0, none⟩) 0 0) 0 [] := ⟨rfl, Or.inr ⟨g1, 0, #[], rfl, by omega, hg1, Nat.le_refl _, Nat.zero_le _, rfl, rfl⟩⟩
    cases ao with
    | none =>
      refine ⟨.slice (some ⟨g1, 0, none⟩) 0 0, u, ?_, hr0, Below.refl _ _, g1, 0, rfl⟩
      simp [Builtin.append_, run_underlying Tryd.underlying28, sizeOf, typeInfo, hi, Builtin.lenOf, Builtin.firstCells, storeCells]
    | some a =>
      have hq := run_append_room_cells (P := Tryd.prog) u 28 28 57 i0 Tryd.underlying28 hi g1 0 0 0 a 0 cap [] (by simp) (by simp) (by simp) (Nat.le_refl _) (by simp) (by simp)
      exact ⟨_, _, hq, hr0, Below.refl _ _, g1, 0, rfl⟩
  · have hpos : 0 < cs.length := List.length_pos_iff.2 h0
    obtain ⟨b, off, rfl, hcc⟩ := hc h0
    obtain ⟨v', u', hr, hown, hgr⟩ := run_append_arg_grows (P := Tryd.prog) u 28 28 57 i0 _ 9 128 Tryd.underlying28 hi hz0 hz1 hz2 rfl (by decide) ⟨g1, 0, none⟩ 0 0 [] rfl (by simp) ⟨b, off, none⟩ cs.length cap news hn (fun j z hj => by
      rw [Addr.add_lit]; exact hcc j z hj) (by omega) (by unfold maxLen; omega) (by omega)
    have hown2 : u'.ownsRow u.heap.size 57 9 v' cs.length news := ⟨hn, by simpa using hown.2⟩
    refine ⟨v', u', hr, ⟨hown2.1, ?_⟩, ⟨hgr.os, hgr.tape, hgr.output, hgr.size, fun k hk => hgr.block k hk (by simp)⟩, ?_⟩
    · rcases hown2.2 with h | ⟨g, c, cur, e, hg, hh⟩
      · exact Or.inl h
      · exact Or.inr ⟨g, c, cur, e, by omega, hh⟩
    · rcases hown2.2 with ⟨_, h⟩ | ⟨g, c, cur, e, hg, hh⟩
      · omega
      · exact ⟨g, c, e⟩
end Go.Proofs.YtmhmlkdoaojimapDoor

/- spec.l08Clause, spec.DbOk. -/
namespace Go.Proofs.YtmhmlkdoaojimapDoor
open Go.RowKit

set_option maxHeartbeats 4000000 in
theorem s_clauseOk (c : Cla) (w : World) (k1 s1 n1 a1 l1 c1 k2 s2 n2 a2 l2 c2) (i1 : TmIn w c.h (.agg #[.int .i64 k1, .string s1, .int .i64 n1, .slice a1 l1 c1])) (i2 : TmIn w c.b (.agg #[.int .i64 k2, .string s2, .int .i64 n2, .slice a2 l2 c2])) (hwt : c.h.wt ≤ 1048576) :
    Calls Tryd.prog 29 #[.agg #[.int .i64 k1, .string s1, .int .i64 n1, .slice a1 l1 c1, .int .i64 k2, .string s2, .int .i64 n2, .slice a2 l2 c2, .string c.f]] w fun e w' => e = .returned (.bool (okCl c)) ∧ Below w.heap.size w w' := by
  obtain ⟨H, B, f⟩ := c
  simp only at i1 i2 hwt
  obtain ⟨W, hW⟩ : ∃ W, W = w.alloc (.cells #[.int .i64 k1, .string s1, .int .i64 n1, .slice a1 l1 c1, .int .i64 k2, .string s2, .int .i64 n2, .slice a2 l2 c2, .string f] 57) := ⟨_, rfl⟩
  have bW : Below w.heap.size w W := by rw [hW]; exact (Below.refl _ _).alloc (Nat.le_refl _) _
  have kW : W.heap[w.heap.size]? = some (.cells #[.int .i64 k1, .string s1, .int .i64 n1, .slice a1 l1 c1, .int .i64 k2, .string s2, .int .i64 n2, .slice a2 l2 c2, .string f] 57 (0, 0)) := by rw [hW]; exact heap_alloc_new _ _
  have HK : Hid (∀ u, Below W.heap.size W u → u.heap[w.heap.size]? = some (.cells #[.int .i64 k1, .string s1, .int .i64 n1, .slice a1 l1 c1, .int .i64 k2, .string s2, .int .i64 n2, .slice a2 l2 c2, .string f] 57 (0, 0))) := fun u hb => (hb.block _ (Array.getElem?_eq_some_iff.1 kW).1).trans kW
  have HOK : Hid (∀ u t v b, Below W.heap.size W u → TmIn W t v ∧ t.ok = b → Calls Tryd.prog 58 #[v] u fun e w' => e = .returned (.bool b) ∧ Below u.heap.size u w') := fun u t v b hb h => by rw [← h.2]; exact specOk t u _ (TmIn.keep hb _ _ h.1)
  have j1 := TmIn.keep bW _ _ i1
  have j2 := TmIn.keep bW _ _ i2
  have HHD : Hid (∀ u, Below W.heap.size W u → Calls Tryd.prog 59 #[.agg #[.int .i64 k1, .string s1, .int .i64 n1, .slice a1 l1 c1]] u fun e w' => e = .returned (.bool (mayB (predB H))) ∧ Below u.heap.size u w') := fun u hb => s_head H u _ (TmIn.keep hb _ _ (TmIn.keep bW _ _ i1)) hwt
  have HBW : Hid (Below w.heap.size w W) := bW
  have HV : Hid (okCl ⟨H, B, f⟩ = (H.ok && B.ok && mayB (predB H))) := rfl
  obtain ⟨⟨x0, x1, x2, x3, x4, x5, x6, x7, x8⟩, _⟩ := blk9 kW
  clear i1 i2 hwt bW kW
  obtain ⟨p, hp⟩ : ∃ p, H.ok = p := ⟨_, rfl⟩
  obtain ⟨q, hq⟩ : ∃ q, B.ok = q := ⟨_, rfl⟩
  obtain ⟨r, hr⟩ : ∃ r, mayB (predB H) = r := ⟨_, rfl⟩
  have HI1 : Hid (TmIn W H (.agg #[.int .i64 k1, .string s1, .int .i64 n1, .slice a1 l1 c1]) ∧ H.ok = p) := ⟨j1, hp⟩
  have HI2 : Hid (TmIn W B (.agg #[.int .i64 k2, .string s2, .int .i64 n2, .slice a2 l2 c2]) ∧ B.ok = q) := ⟨j2, hq⟩
  rw [hp, hq, hr] at HV
  rw [hr] at HHD
  have HB0 : Hid (Below W.heap.size W W) := Below.refl _ _
  clear j1 j2 hp hq hr
  cases p <;> cases q <;> cases r
  all_goals
    go_enter Tryd.func29, Tryd.ntmps29
    go_upto_region 1 with fail
    rw [← hW]
    clear hW
    go_wp2_with (first
      | (go_at_call 58; first
          | (refine (Calls.mono (HOK.out _ _ _ _ HB0.out HI1.out) ?_); rintro e w1 ⟨rfl, hb⟩; replace HB0 : Hid (Below W.heap.size W w1) := HB0.out.trans (hb.mono HB0.out.size); clear hb; obtain ⟨⟨x0, x1, x2, x3, x4, x5, x6, x7, x8⟩, _⟩ := blk9 (HK.out w1 HB0.out))
          | (refine (Calls.mono (HOK.out _ _ _ _ HB0.out HI2.out) ?_); rintro e w1 ⟨rfl, hb⟩; replace HB0 : Hid (Below W.heap.size W w1) := HB0.out.trans (hb.mono HB0.out.size); clear hb; obtain ⟨⟨x0, x1, x2, x3, x4, x5, x6, x7, x8⟩, _⟩ := blk9 (HK.out w1 HB0.out)))
      | (go_at_call 59; refine (Calls.mono (HHD.out _ HB0.out) ?_); rintro e w1 ⟨rfl, hb⟩; replace HB0 : Hid (Below W.heap.size W w1) := HB0.out.trans (hb.mono HB0.out.size); clear hb))
    go_ret
    exact ⟨by rw [HV.out]; rfl, HBW.out.trans (HB0.out.mono HBW.out.size)⟩

set_option maxHeartbeats 8000000 in
set_option maxRecDepth 20000 in
theorem s_dbOk (cs : List Cla) (xs : List ByteArray) (w : World) (c0 c1 : Value) (h : ClsIn w cs c0) (hx : SsIn w xs c1) (hl : cs.length ≤ 1100000) (hxl : xs.length ≤ 1100000) (hwt : ∀ c ∈ cs, c.h.wt ≤ 1048576) (kb : Bool) (hkb : kb = true ↔ ((∀ c ∈ cs, okCl c = true) ∧ cs.length ≤ 120 ∧ xs.length ≤ 40)) :
    Calls Tryd.prog 8 #[.agg #[c0, c1]] w fun e w' => e = .returned (.bool kb) ∧ Below w.heap.size w w' := by
  have HKB : Hid (kb = true ↔ ((∀ c ∈ cs, okCl c = true) ∧ cs.length ≤ 120 ∧ xs.length ≤ 40)) := hkb
  obtain ⟨W, hW⟩ : ∃ W, W = w.alloc (.cells #[c0, c1] 30) := ⟨_, rfl⟩
  have bW : Below w.heap.size w W := by rw [hW]; exact (Below.refl _ _).alloc (Nat.le_refl _) _
  have k1 : W.heap[w.heap.size]? = some (.cells #[c0, c1] 30 (0, 0)) := by rw [hW]; exact heap_alloc_new _ _
  obtain ⟨ao, cap, news0, rfl, hcap, hmax, hv, hcell⟩ := cls_vals h
  obtain ⟨a2, p2, rfl, -⟩ := hx
  have HV : Hid (ClsVals w cs news0 ∧ (∀ c ∈ cs, c.h.wt ≤ 1048576) ∧ cs.length ≤ 1100000 ∧ xs.length ≤ 1100000) := ⟨hv, hwt, hl, hxl⟩
  have HCELL : Hid (cs ≠ [] → ∃ b off, ao = some ⟨b, off, none⟩ ∧ ∀ j z, news0[j]? = some z → w.cell? ⟨b, off + j, none⟩ = some z) := hcell
  have HBW : Hid (Below w.heap.size w W) := bW
  have HK : Hid (∀ w1, Below W.heap.size W w1 → w1.heap[w.heap.size]? = some (.cells #[.slice ao cs.length cap, .slice a2 xs.length p2] 30 (0, 0))) := fun w1 hb => (hb.block _ (Array.getElem?_eq_some_iff.1 k1).1).trans k1
  clear h hv hwt hl hxl bW k1 hcell hcap hmax hkb
  go_enter Tryd.func8, Tryd.ntmps8
  go_upto_region 2 with fail
  rw [← hW]
  clear hW
  go_loopw [3] (fun v3 wr => ∃ (j : Nat), j ≤ cs.length ∧ v3 = .int .i64 (j : Int) ∧ Hid (Below W.heap.size W wr ∧ ∀ c ∈ cs.take j, okCl c = true)) (fun i _ => cs.length - (intOf i).toNat)
  case atStart => exact ⟨0, by omega, rfl, Below.refl _ _, by simp⟩
  case round =>
    obtain ⟨j, hj, rfl, HB⟩ := hrel
    have x9 := blk_cell (i := 0) (HK.out wr HB.out.1) (by simp)
    by_cases hlt : j < cs.length
    · obtain ⟨b, off, rfl, hc9⟩ := HCELL.out (by intro e; subst e; simp at hlt)
      obtain ⟨k1, t1, n1, a1, l1, m1, k2, t2, n2, a3, l3, m2, hcc, hf, o1, o2⟩ := HV.out.1.2 j hlt
      have hbw : Below w.heap.size w wr := HBW.out.trans (HB.out.1.mono HBW.out.size)
      have hat : ∀ r, r < 9 → ∀ z, [Value.int .i64 k1, .string t1, .int .i64 n1, .slice a1 l1 m1, .int .i64 k2, .string t2, .int .i64 n2, .slice a3 l3 m2, .string cs[j].f][r]? = some z → wr.cell? ⟨b, off + (j * 9 + r), none⟩ = some z := fun r hr z hz => cell_keep (hc9 _ _ ((hcc r hr).trans hz)) hbw
      have x0 := hat 0 (by omega) _ rfl
      have x1 := hat 1 (by omega) _ rfl
      have x2 := hat 2 (by omega) _ rfl
      have x3 := hat 3 (by omega) _ rfl
      have x4 := hat 4 (by omega) _ rfl
      have x5 := hat 5 (by omega) _ rfl
      have x6 := hat 6 (by omega) _ rfl
      have x7 := hat 7 (by omega) _ rfl
      have x8 := hat 8 (by omega) _ rfl
      rw [← Nat.add_assoc] at x1 x2 x3 x4 x5 x6 x7 x8
      rw [Nat.add_zero] at x0
      have HC0 := s_clauseOk cs[j] wr k1 t1 n1 a1 l1 m1 k2 t2 n2 a3 l3 m2 (TmIn.keep hbw _ _ o1) (TmIn.keep hbw _ _ o2) (HV.out.2.1 _ (List.getElem_mem hlt))
      have HTK : Hid (cs.take (j + 1) = cs.take j ++ [cs[j]]) := List.take_succ_eq_append_getElem hlt
      have HM : Hid (cs[j] ∈ cs) := List.getElem_mem hlt
      have hnl : cs.length ≤ 1100000 := HV.out.2.2.1
      obtain ⟨ob, hob⟩ : ∃ ob, okCl cs[j] = ob := ⟨_, rfl⟩
      rw [hob] at HC0
      have HC : Hid _ := HC0
      have HOB : Hid (okCl cs[j] = ob) := hob
      clear hc9 hcc hf o1 o2 hat HC0 hob
      generalize cs[j] = kj at *
      cases ob
      · go_wp2_with (go_at_call 29; refine (Calls.mono HC.out ?_); rintro e w1 ⟨rfl, hb⟩; have HB1 : Hid (Below wr.heap.size wr w1) := hb; clear hb)
        go_ret
        have hk : kb = false := by
          cases hk : kb with
          | false => rfl
          | true => exact absurd (((HKB.out.1 hk).1 kj HM.out).symm.trans HOB.out) (by simp)
        have b1 := HB.out.1.trans (HB1.out.mono HB.out.1.size)
        exact ⟨by rw [hk]; rfl, HBW.out.trans (b1.mono HBW.out.size)⟩
      · go_wp2_with (go_at_call 29; refine (Calls.mono HC.out ?_); rintro e w1 ⟨rfl, hb⟩; have HB1 : Hid (Below wr.heap.size wr w1) := hb; clear hb)
        go_roundw
        case rel =>
          refine ⟨j + 1, by omega, by go_num, HB.out.1.trans (HB1.out.mono HB.out.1.size), ?_⟩
          rw [HTK.out]
          intro c hc
          rcases List.mem_append.1 hc with h | h
          · exact HB.out.2 c h
          · obtain rfl : c = kj := by simpa using h
            exact HOB.out
        case measure => simp [intOf]; omega
    · obtain rfl : j = cs.length := by omega
      have y9 := blk_cell (i := 1) (HK.out wr HB.out.1) (by simp)
      have HALL : Hid (∀ c ∈ cs, okCl c = true) := by
        have := HB.out.2
        rw [List.take_of_length_le (Nat.le_refl _)] at this
        exact this
      have hnl : (cs.length : Int) ≤ 1100000 := by have := HV.out.2.2.1; omega
      have hkd : kb = (decide ((cs.length : Int) ≤ 120) && decide ((xs.length : Int) ≤ 40)) := by
        rw [Bool.eq_iff_iff, HKB.out, Bool.and_eq_true, decide_eq_true_iff, decide_eq_true_iff]
        constructor
        · rintro ⟨_, h1, h2⟩
          exact ⟨by omega, by omega⟩
        · rintro ⟨h1, h2⟩
          exact ⟨HALL.out, by omega, by omega⟩
      have HKD : Hid (kb = (decide ((cs.length : Int) ≤ 120) && decide ((xs.length : Int) ≤ 40))) := hkd
      clear hkd hnl
      by_cases h1 : (cs.length : Int) ≤ 120
      · by_cases h2 : (xs.length : Int) ≤ 40
        · go_wp2
          go_ret
          exact ⟨by rw [HKD.out]; simp [h1, h2], HBW.out.trans (HB.out.1.mono HBW.out.size)⟩
        · go_wp2
          go_ret
          exact ⟨by rw [HKD.out]; simp; intro _; omega, HBW.out.trans (HB.out.1.mono HBW.out.size)⟩
      · go_wp2
        go_ret
        exact ⟨by rw [HKD.out]; simp; intro _; omega, HBW.out.trans (HB.out.1.mono HBW.out.size)⟩
end Go.Proofs.YtmhmlkdoaojimapDoor

/- A map from texts to rows: what it has. -/
namespace Go.Proofs.YtmhmlkdoaojimapDoor
open Go.RowKit

/-- block m is another object -/
def putB (w : World) (m : Nat) (o : Obj) : World := { w with heap := w.heap.setIfInBounds m o }
theorem putB_at {w : World} {m : Nat} {o o' : Obj} (h : w.heap[m]? = some o') : (putB w m o).heap[m]? = some o := by
  have := (Array.getElem?_eq_some_iff.1 h).1
  simp [putB, this]
theorem putB_other {w : World} {m k : Nat} {o : Obj} (h : k ≠ m) : (putB w m o).heap[k]? = w.heap[k]? := by
  simp [putB, Ne.symm h]

def vget (s : ByteArray) : List (ByteArray × Value) → Option Value
  | [] => none
  | x :: r => if x.1 = s then some x.2 else vget s r
def vput (s : ByteArray) (n : Value) : List (ByteArray × Value) → List (ByteArray × Value)
  | [] => [(s, n)]
  | x :: r => if x.1 = s then (s, n) :: r else x :: vput s n r
theorem vget_put {s : ByteArray} {n : Value} (a : ByteArray) : ∀ ms, vget a (vput s n ms) = if s = a then some n else vget a ms
  | [] => by simp [vput, vget]
  | x :: r => by
    unfold vput
    by_cases h : x.1 = s
    · rw [if_pos h]
      simp only [vget]
      by_cases h2 : s = a
      · rw [if_pos h2, if_pos h2]
      · rw [if_neg h2, if_neg h2, if_neg (by rw [h]; exact h2)]
    · rw [if_neg h]
      simp only [vget]
      rw [vget_put a r]
      by_cases h2 : x.1 = a
      · rw [if_pos h2]
        by_cases h3 : s = a
        · exact absurd (h2.trans h3.symm) h
        · rw [if_neg h3, if_pos h2]
      · rw [if_neg h2, if_neg h2]

def mkW (x : ByteArray × Value) : Value × Value := (.string x.1, x.2)
/-- block m is the map ms -/
def BornOk (es : Array MapEntry) (clock : Nat) : Prop := (es.toList.map (·.born)).Nodup ∧ ∀ x ∈ es.toList, x.born < clock
theorem BornOk.push {es : Array MapEntry} {clock : Nat} (h : BornOk es clock) (k v : Value) : BornOk (es.push { key := k, val := v, born := clock }) (clock + 1) := by
  unfold BornOk
  rw [Array.toList_push, List.map_append]
  refine ⟨List.nodup_append.2 ⟨h.1, by simp, fun a ha b hb e => ?_⟩, fun x hx => ?_⟩
  · obtain ⟨x, hx, rfl⟩ := List.mem_map.1 ha
    have := h.2 x hx
    simp at hb
    omega
  · rcases List.mem_append.1 hx with hx | hx
    · have := h.2 x hx; omega
    · obtain rfl : x = _ := by simpa using hx
      exact Nat.lt_succ_self _
theorem BornOk.set {es : Array MapEntry} {clock : Nat} (h : BornOk es clock) {j : Nat} (hj : j < es.size) {l : List MapEntry} {e' : MapEntry} (hl : l = es.toList.set j e') (he : e'.born = es[j].born) : (l.map (·.born)).Nodup ∧ ∀ x ∈ l, x.born < clock := by
  have hm : l.map (·.born) = es.toList.map (·.born) := by
    rw [hl, List.map_set, he]
    apply List.ext_getElem?
    intro i
    rw [List.getElem?_set]
    by_cases h9 : j = i
    · subst h9; simp [hj]
    · simp [h9]
  refine ⟨hm ▸ h.1, fun x hx => ?_⟩
  have h1 : x.born ∈ l.map (·.born) := List.mem_map_of_mem hx
  rw [hm] at h1
  obtain ⟨y, hy, e⟩ := List.mem_map.1 h1
  rw [← e]
  exact h.2 y hy
def VMapAt (w : World) (m : Nat) (ms : List (ByteArray × Value)) : Prop := ∃ es clock, w.heap[m]? = some (.map es clock) ∧ es.toList.map (fun e => (e.key, e.val)) = ms.map mkW ∧ BornOk es clock
theorem VMapAt.turn {w w' : World} {m : Nat} {ms : List (ByteArray × Value)} (h : VMapAt w m ms) (hb : w'.heap[m]? = w.heap[m]?) : VMapAt w' m ms := by
  obtain ⟨es, c, h1, h2⟩ := h
  exact ⟨es, c, hb.trans h1, h2⟩

theorem beq_bytes (a b : ByteArray) : (a == b) = decide (a = b) := by
  obtain ⟨x⟩ := a
  obtain ⟨y⟩ := b
  by_cases h : x = y
  · subst h
    rw [decide_eq_true rfl]
    show (x == x) = true
    simp
  · rw [decide_eq_false (fun e => h (ByteArray.mk.inj e))]
    show (x == y) = false
    simpa using h
theorem vnow (s : ByteArray) : ∀ (ms : List (ByteArray × Value)) (es : List MapEntry) (i : Nat), es.map (fun e => (e.key, e.val)) = ms.map mkW →
    (vget s ms = none → Instr.findNow .string (.string s) es i = some none) ∧ (∀ n, vget s ms = some n → ∃ j, Instr.findNow .string (.string s) es i = some (some (i + j, n)) ∧ j < es.length ∧ ((es[j]?).map (·.key)) = some (.string s) ∧
      ∀ (v : Value) (e' : MapEntry), e'.key = .string s → e'.val = v → (es.set j e').map (fun e => (e.key, e.val)) = (vput s v ms).map mkW)
  | [], [], i, _ => ⟨fun _ => rfl, fun n h => by cases h⟩
  | [], e :: es, i, h => by simp at h
  | x :: ms, [], i, h => by simp at h
  | x :: ms, e :: es, i, h => by
    simp only [List.map_cons, List.cons.injEq, mkW, Prod.mk.injEq] at h
    obtain ⟨⟨hk, hv⟩, hr⟩ := h
    obtain ⟨h1, h2⟩ := vnow s ms es (i + 1) hr
    have hs : Instr.sameNow .string (.string s) e.key = some (s == x.1) := by rw [hk]; rfl
    by_cases hx : x.1 = s
    · have hb : (s == x.1) = true := by rw [beq_bytes, hx]; exact decide_eq_true rfl
      rw [hb] at hs
      refine ⟨fun hn => by simp [vget, hx] at hn, fun n hn => ⟨0, ?_, by simp, by simp [hk, hx], fun v e' h3 h4 => ?_⟩⟩
      · simp only [vget, if_pos hx, Option.some.injEq] at hn
        simp [Instr.findNow, hs, hv, hn]
      · simp only [List.set_cons_zero, List.map_cons, vput, if_pos hx, h3, h4, hr]
        rfl
    · have hb : (s == x.1) = false := by
        rw [beq_bytes]; exact decide_eq_false fun e => hx e.symm
      rw [hb] at hs
      refine ⟨fun hn => ?_, fun n hn => ?_⟩
      · simp only [vget, if_neg hx] at hn
        simp [Instr.findNow, hs, h1 hn]
      · simp only [vget, if_neg hx] at hn
        obtain ⟨j, hj, hjl, hjk, hjs⟩ := h2 n hn
        refine ⟨j + 1, ?_, by simpa using hjl, by simpa using hjk, fun v e' h3 h4 => ?_⟩
        · simp only [Instr.findNow, hs, hj]
          rw [show i + 1 + j = i + (j + 1) by omega]
        · simp only [List.set_cons_succ, List.map_cons, vput, if_neg hx, hjs v e' h3 h4, hk, hv]
          rfl

theorem vchk (d : Nat) (em : Bool) (w : World) (s : ByteArray) : (Instr.checkKey em (d + 1) 9 (.string s)).run Tryd.prog w = .ok () w := by simp [Instr.checkKey, run_underlying Tryd.underlying9]

theorem vmap_look (w : World) (m : Nat) (ms : List (ByteArray × Value)) (h : VMapAt w m ms) (s : ByteArray) :
    (Instr.lookup 61 (.map (some m)) (.string s) true).run Tryd.prog w = .ok (.tuple #[(vget s ms).getD (.slice none 0 0), .bool (vget s ms).isSome]) w := by
  obtain ⟨es, clock, h1, h2, h3⟩ := h
  obtain ⟨q1, q2⟩ := vnow s ms es.toList 0 h2
  have hc := vchk 9999 es.isEmpty w s
  cases hg : vget s ms with
  | some n =>
    obtain ⟨j, hj, _⟩ := q2 n hg
    simp [Instr.lookup, run_underlying Tryd.underlying61, run_underlying Tryd.underlying9, MapKept.run_getObj_map h1, hc, Instr.findKey, hj]
  | none =>
    have hj := q1 hg
    simp [Instr.lookup, run_underlying Tryd.underlying61, run_underlying Tryd.underlying9, MapKept.run_getObj_map h1, hc, Instr.findKey, hj]

theorem vmap_put (w : World) (m : Nat) (ms : List (ByteArray × Value)) (h : VMapAt w m ms) (s : ByteArray) (n : Value) :
    ∃ o, (Instr.mapUpdate 61 (.map (some m)) (.string s) (n)).run Tryd.prog w = .ok () (putB w m o) ∧ VMapAt (putB w m o) m (vput s n ms) := by
  obtain ⟨es, clock, h1, h2, h3⟩ := h
  obtain ⟨q1, q2⟩ := vnow s ms es.toList 0 h2
  have hc := vchk 9999 false w s
  cases hg : vget s ms with
  | none =>
    have hj := q1 hg
    refine ⟨.map (es.push { key := .string s, val := n, born := clock }) (clock + 1), ?_, _, _, putB_at h1, ?_, h3.push _ _⟩
    · simp [Instr.mapUpdate, run_underlying Tryd.underlying61, run_underlying Tryd.underlying9, MapKept.run_getObj_map h1, hc, Instr.findKey, hj, MapKept.run_setObj_map _ h1, putB]
    · rw [Array.toList_push, List.map_append, h2]
      have : vput s n ms = ms ++ [(s, n)] := by
        clear h2 q1 q2 hj
        induction ms with
        | nil => rfl
        | cons x r ih =>
          simp only [vget] at hg
          split at hg
          · cases hg
          · rename_i hx
            simp only [vput, if_neg hx, ih hg, List.cons_append]
      rw [this, List.map_append]
      rfl
  | some z =>
    obtain ⟨j, hj, hjl, hjk, hjs⟩ := q2 z hg
    rw [Nat.zero_add] at hj
    have hjl' : j < es.size := by simpa using hjl
    have hkey : ((es[j]?).map (·.key)).getD (.string s) = .string s := by
      have : es.toList[j]? = es[j]? := by simp
      rw [← this, hjk]; rfl
    have hst : (Instr.keyThatStays (.string s) (.string s)).run Tryd.prog w = .ok (.string s) w := by
      have hb : (s == s) = true := by rw [beq_bytes]; exact decide_eq_true rfl
      simp [Instr.keyThatStays, Instr.sameBits, hb]
    refine ⟨.map (es.modify j fun e => { e with key := .string s, val := n }) clock, ?_, _, _, putB_at h1, ?_, ?_⟩
    · simp [Instr.mapUpdate, run_underlying Tryd.underlying61, run_underlying Tryd.underlying9, MapKept.run_getObj_map h1, hc, Instr.findKey, hj, hkey, hst, MapKept.run_setObj_map _ h1, putB]
    · have e1 : (es.modify j fun e => { e with key := .string s, val := n }).toList = es.toList.set j { es[j] with key := .string s, val := n } := by
        apply List.ext_getElem?
        intro i
        rw [List.getElem?_set, Array.getElem?_toList, Array.getElem?_modify, Array.length_toList]
        by_cases h : j = i
        · subst h; simp [hjl']
        · simp [h]
      rw [e1]
      exact hjs n _ rfl rfl
    · have e1 : (es.modify j fun e => { e with key := .string s, val := n }).toList = es.toList.set j { es[j] with key := .string s, val := n } := by
        apply List.ext_getElem?
        intro i
        rw [List.getElem?_set, Array.getElem?_toList, Array.getElem?_modify, Array.length_toList]
        by_cases h : j = i
        · subst h; simp [hjl']
        · simp [h]
      exact BornOk.set h3 hjl' e1 rfl
end Go.Proofs.YtmhmlkdoaojimapDoor
