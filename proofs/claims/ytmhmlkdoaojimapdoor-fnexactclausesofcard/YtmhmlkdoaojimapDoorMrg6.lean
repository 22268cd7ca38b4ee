/- Four texts in one. -/
import Derived.Test.YtmhmlkdoaojimapDoorMrg4
import Derived.Test.YtmhmlkdoaojimapDoorMrg3
import Derived.Test.YtmhmlkdoaojimapDoorMrg5
import Derived.Test.YtmhmlkdoaojimapDoorMrg1
import Derived.Deep.DeepCutAuto
import Derived.ArgAppend
import Derived.Laws.OwnMore
import Derived.Test.YtmhmlkdoaojimapDoorRows
import Derived.WalkKit
import Derived.WalkSpells
import Derived.ProofKit
import Derived.OpenShut
/- laws.eqDb of the same. -/
namespace Go.Proofs.YtmhmlkdoaojimapDoor
open Go.RowKit

theorem cell_of_row {w : World} {g : Nat} {cur : Array Value} {e : TypeId} {i : Nat} {v : Value} (h : w.heap[g]? = some (.cells cur e (0, 0))) (hi : cur[i]? = some v) : w.cell? ⟨g, i, none⟩ = some v := by
  unfold World.cell?
  simp only
  rw [h]
  exact hi

/-- a row of clauses of its own is one in memory -/
theorem OwnClS.toIn {ec e : TypeId} {w : World} {ks : List Cla} {sl : Value} {F : List Nat} (h : OwnClS ec e w ks sl F) : ClsIn w ks sl := by
  rcases h with ⟨rfl, rfl, rfl⟩ | ⟨g, cap, cs, F', rfl, h5, rfl, h6⟩
  · exact ⟨none, 0, rfl, Nat.le_refl _, Nat.zero_le _, fun h => absurd rfl h⟩
  · obtain ⟨hl, h5⟩ := h5
    rcases h5 with ⟨h5, _⟩ | ⟨g', cap', cur, e', _, hblk, hc1, hc2, hc3, hc4⟩
    · cases h5
    · simp only [Value.slice.injEq, Option.some.injEq, Addr.mk.injEq, and_true, true_and] at e'
      obtain ⟨rfl, rfl⟩ := e'
      refine ⟨_, cap, rfl, hc1, hc2, fun _ => ⟨g, 0, rfl, fun j hj => ?_⟩⟩
      obtain ⟨F1, ⟨k1, s1, n1, a1, l1, m1, k2, s2, n2, a2, l2, m2, F2, F3, hcc, _, hf, o1, o2⟩, _⟩ := h6.at j hj
      have hat : ∀ i, i < 9 → ∀ v, ((cs.drop (j * 9)).take 9)[i]? = some v → w.cell? ⟨g, 0 + j * 9 + i, none⟩ = some v := fun i hi v hv => by
        refine cell_of_row hblk ?_
        rw [List.getElem?_take, if_pos hi, List.getElem?_drop, ← hc4, List.getElem?_take] at hv
        split at hv
        · rw [Nat.zero_add]; simpa using hv
        · cases hv
      rw [hcc] at hat
      exact ⟨k1, s1, n1, a1, l1, m1, k2, s2, n2, a2, l2, m2, hat 0 (by omega) _ rfl, hat 1 (by omega) _ rfl, hat 2 (by omega) _ rfl, hat 3 (by omega) _ rfl, hat 4 (by omega) _ rfl, hat 5 (by omega) _ rfl, hat 6 (by omega) _ rfl, hat 7 (by omega) _ rfl, hat 8 (by omega) _ rfl, hf, Own.toIn _ _ _ o1, Own.toIn _ _ _ o2⟩

theorem owns_shape {w : World} {B e size n : Nat} {v : Value} {xs : List Value} (h : w.ownsRow B e size v n xs) : ∃ ao l c, v = .slice ao l c := by
  rcases h.2 with ⟨rfl, _⟩ | ⟨g, cap, cur, rfl, _⟩
  · exact ⟨_, _, _, rfl⟩
  · exact ⟨_, _, _, rfl⟩

set_option maxRecDepth 20000 in
theorem eq_db (cs : List Cla) (xs : List (List UInt8)) (w : World) (sa ta sb tb : Value) (ha : ClsIn w cs sa) (hb : ClsIn w cs sb) (hl : xs.length ≤ 1100000) (ga : w.ownsRow 0 9 1 ta xs.length (strsV xs)) (gb : w.ownsRow 0 9 1 tb xs.length (strsV xs)) :
    Calls Tryd.prog 11 #[.agg #[sa, ta], .agg #[sb, tb]] w fun e w' => e = .returned (.bool true) ∧ Below w.heap.size w w' := by
  obtain ⟨W, hW⟩ : ∃ W, W = (w.alloc (.cells #[sa, ta] 30)).alloc (.cells #[sb, tb] 30) := ⟨_, rfl⟩
  have bW : Below w.heap.size w W := by rw [hW]; exact ((Below.refl _ _).alloc (Nat.le_refl _) _).alloc (by simp) _
  have k1' : W.heap[w.heap.size]? = some (.cells #[sa, ta] 30 (0, 0)) := by rw [hW]; exact (alloc_old _ _ (by simp)).trans (alloc_at _ _ rfl)
  have k2' : W.heap[w.heap.size + 1]? = some (.cells #[sb, tb] 30 (0, 0)) := by rw [hW]; exact alloc_at _ _ (by simp)
  have HK : Hid (∀ w1, Below W.heap.size W w1 → w1.heap[w.heap.size]? = some (.cells #[sa, ta] 30 (0, 0)) ∧ w1.heap[w.heap.size + 1]? = some (.cells #[sb, tb] 30 (0, 0))) := fun w1 hb => ⟨(hb.block _ (Array.getElem?_eq_some_iff.1 k1').1).trans k1', (hb.block _ (Array.getElem?_eq_some_iff.1 k2').1).trans k2'⟩
  have HC1 : Hid _ := eq_clauses cs W sa sb (ha.keep bW) (hb.keep bW)
  have HC2 : Hid (∀ w1, Below W.heap.size W w1 → Calls Tryd.prog 35 #[ta, tb] w1 fun e w' => e = .returned (.bool true) ∧ Below w1.heap.size w1 w') := fun w1 h1 => eqS_same xs ta tb w1 hl (owns_below (owns_below ga bW) h1) (owns_below (owns_below gb bW) h1)
  have HBW : Hid (Below w.heap.size w W) := bW
  obtain ⟨a1, p1, rfl, -⟩ := ha
  obtain ⟨a2, p2, rfl, -⟩ := hb
  obtain ⟨a3, l3, p3, rfl⟩ := owns_shape ga
  obtain ⟨a4, l4, p4, rfl⟩ := owns_shape gb
  clear bW k1' k2' ga gb hl
  go_enter Tryd.func11, Tryd.ntmps11
  go_upto_region 1 with fail
  rw [← hW]
  clear hW
  have y0 := blk_cell (i := 0) (HK.out W (Below.refl _ _)).1 (by simp)
  have z0 := blk_cell (i := 0) (HK.out W (Below.refl _ _)).2 (by simp)
  go_upto_region 3 with (go_at_call 14; refine (Calls.mono HC1.out ?_); rintro e w1 ⟨rfl, hb⟩; have HB1 : Hid (Below W.heap.size W w1) := hb; clear hb)
  clear y0 z0
  have y0 := blk_cell (i := 1) (HK.out w1 HB1.out).1 (by simp)
  have z0 := blk_cell (i := 1) (HK.out w1 HB1.out).2 (by simp)
  have HC3 : Hid _ := HC2.out w1 HB1.out
  go_wp2_with (go_at_call 35; refine (Calls.mono HC3.out ?_); rintro e w2 ⟨rfl, hb⟩; have HB2 : Hid (Below W.heap.size W w2) := HB1.out.trans (hb.mono HB1.out.size); clear hb)
  go_ret
  exact ⟨rfl, HBW.out.trans (HB2.out.mono HBW.out.size)⟩
end Go.Proofs.YtmhmlkdoaojimapDoor

/- The cells of a row of clauses, wherever they lie; a row behind a new one. -/
namespace Go.Proofs.YtmhmlkdoaojimapDoor
open Go.RowKit

theorem row_keepB {w w' : World} {B e size n : Nat} {v : Value} {xs : List Value} (h : w.ownsRow B e size v n xs) (hb : ∀ b, v.ownBlock = some b → w'.heap[b]? = w.heap[b]?) : w'.ownsRow B e size v n xs := by
  rcases h.2 with ⟨rfl, hl⟩ | ⟨g, cap, cur, rfl, h1, hh, h2⟩
  · exact ⟨h.1, Or.inl ⟨rfl, hl⟩⟩
  · exact ⟨h.1, Or.inr ⟨g, cap, cur, rfl, h1, (hb g rfl).trans hh, h2⟩⟩

/-- nine cells each, and the terms that they tell -/
def ClsVals (w : World) (cs : List Cla) (news : List Value) : Prop :=
  news.length = cs.length * 9 ∧ ∀ j (hj : j < cs.length), ∃ k1 s1 n1 a1 l1 m1 k2 s2 n2 a2 l2 m2, (∀ r, r < 9 → news[j * 9 + r]? = [Value.int .i64 k1, .string s1, .int .i64 n1, .slice a1 l1 m1, .int .i64 k2, .string s2, .int .i64 n2, .slice a2 l2 m2, .string cs[j].f][r]?) ∧
    cs[j].f.size ≤ maxLen ∧ TmIn w cs[j].h (.agg #[.int .i64 k1, .string s1, .int .i64 n1, .slice a1 l1 m1]) ∧ TmIn w cs[j].b (.agg #[.int .i64 k2, .string s2, .int .i64 n2, .slice a2 l2 m2])
theorem ClsVals.keep {w w' : World} {cs : List Cla} {news : List Value} (h : ClsVals w cs news) (hb : Below w.heap.size w w') : ClsVals w' cs news := by
  refine ⟨h.1, fun j hj => ?_⟩
  obtain ⟨k1, s1, n1, a1, l1, m1, k2, s2, n2, a2, l2, m2, h1, h2, h3, h4⟩ := h.2 j hj
  exact ⟨k1, s1, n1, a1, l1, m1, k2, s2, n2, a2, l2, m2, h1, h2, TmIn.keep hb _ _ h3, TmIn.keep hb _ _ h4⟩

theorem cls_vals {w : World} {cs : List Cla} {v : Value} (h : ClsIn w cs v) : ∃ ao cap news, v = .slice ao cs.length cap ∧ cs.length ≤ cap ∧ cap ≤ maxLen ∧ ClsVals w cs news ∧ (cs ≠ [] → ∃ b off, ao = some ⟨b, off, none⟩ ∧ ∀ j z, news[j]? = some z → w.cell? ⟨b, off + j, none⟩ = some z) := by
  obtain ⟨ao, cap, rfl, h1, h2, h3⟩ := h
  by_cases h0 : cs = []
  · subst h0
    exact ⟨ao, cap, [], rfl, h1, h2, ⟨rfl, fun j hj => by simp at hj⟩, fun h => absurd rfl h⟩
  · obtain ⟨b, off, rfl, hr⟩ := h3 h0
    have hget : ∀ i, i < cs.length * 9 → ∃ z, w.cell? ⟨b, off + i, none⟩ = some z := fun i hi => by
      have hj : i / 9 < cs.length := by omega
      obtain ⟨k1, s1, n1, a1, l1, m1, k2, s2, n2, a2, l2, m2, q0, q1, q2, q3, q4, q5, q6, q7, q8, _⟩ := hr (i / 9) hj
      have hi9 : off + i = off + i / 9 * 9 + i % 9 := by omega
      have hm : i % 9 < 9 := Nat.mod_lt _ (by omega)
      rw [hi9]
      generalize i % 9 = r at hm
      match r, hm with
      | 0, _ => exact ⟨_, q0⟩
      | 1, _ => exact ⟨_, q1⟩
      | 2, _ => exact ⟨_, q2⟩
      | 3, _ => exact ⟨_, q3⟩
      | 4, _ => exact ⟨_, q4⟩
      | 5, _ => exact ⟨_, q5⟩
      | 6, _ => exact ⟨_, q6⟩
      | 7, _ => exact ⟨_, q7⟩
      | 8, _ => exact ⟨_, q8⟩
    have hnew : ∀ i, i < cs.length * 9 → ((List.range (cs.length * 9)).map fun i => (w.cell? ⟨b, off + i, none⟩).getD undef)[i]? = w.cell? ⟨b, off + i, none⟩ := fun i hi => by
      obtain ⟨z, hz⟩ := hget i hi
      rw [List.getElem?_map, List.getElem?_range hi, Option.map_some, hz]
      rfl
    refine ⟨_, cap, (List.range (cs.length * 9)).map fun i => (w.cell? ⟨b, off + i, none⟩).getD undef, rfl, h1, h2, ⟨by simp, fun j hj => ?_⟩, fun _ => ⟨b, off, rfl, fun i z hz => ?_⟩⟩
    · obtain ⟨k1, s1, n1, a1, l1, m1, k2, s2, n2, a2, l2, m2, q0, q1, q2, q3, q4, q5, q6, q7, q8, qf, q9, q10⟩ := hr j hj
      refine ⟨k1, s1, n1, a1, l1, m1, k2, s2, n2, a2, l2, m2, fun r hr9 => ?_, qf, q9, q10⟩
      rw [hnew _ (by omega), ← Nat.add_assoc]
      match r, hr9 with
      | 0, _ => exact q0
      | 1, _ => exact q1
      | 2, _ => exact q2
      | 3, _ => exact q3
      | 4, _ => exact q4
      | 5, _ => exact q5
      | 6, _ => exact q6
      | 7, _ => exact q7
      | 8, _ => exact q8
    · have hi : i < cs.length * 9 := by
        have := (List.getElem?_eq_some_iff.1 hz).1
        simpa using this
      rw [← hnew i hi]
      exact hz

theorem vals_in {w : World} {B : Nat} {cs : List Cla} {v : Value} {news : List Value} (h : w.ownsRow B 57 9 v cs.length news) (hv : ClsVals w cs news) : ClsIn w cs v := by
  rcases h.2 with ⟨rfl, hl⟩ | ⟨g, cap, cur, rfl, _, hh, hnc, hcm, hcs, htk⟩
  · exact ⟨none, 0, by rw [hl], by omega, by unfold maxLen; omega, fun hne => absurd (List.eq_nil_of_length_eq_zero hl) hne⟩
  · refine ⟨_, cap, rfl, hnc, hcm, fun _ => ⟨g, 0, rfl, fun j hj => ?_⟩⟩
    obtain ⟨k1, s1, n1, a1, l1, m1, k2, s2, n2, a2, l2, m2, h1, h2, h3, h4⟩ := hv.2 j hj
    have hat : ∀ r, r < 9 → ∀ z, [Value.int .i64 k1, .string s1, .int .i64 n1, .slice a1 l1 m1, .int .i64 k2, .string s2, .int .i64 n2, .slice a2 l2 m2, .string cs[j].f][r]? = some z → w.cell? ⟨g, 0 + j * 9 + r, none⟩ = some z := fun r hr z hz => by
      refine cell_of_row hh ?_
      rw [← h1 r hr, ← htk, List.getElem?_take] at hz
      split at hz
      · rw [Nat.zero_add]; simpa using hz
      · cases hz
    exact ⟨k1, s1, n1, a1, l1, m1, k2, s2, n2, a2, l2, m2, hat 0 (by omega) _ rfl, hat 1 (by omega) _ rfl, hat 2 (by omega) _ rfl, hat 3 (by omega) _ rfl, hat 4 (by omega) _ rfl, hat 5 (by omega) _ rfl, hat 6 (by omega) _ rfl, hat 7 (by omega) _ rfl, hat 8 (by omega) _ rfl, h2, h3, h4⟩

/-- all clauses behind a new row with no room: their cells alone -/
theorem app_clauses (cs : List Cla) (u : World) (sl : Value) (news : List Value) (ao : Option Addr) (cap : Nat) (g1 : Nat) (B : Nat) (hsl : sl = .slice ao cs.length cap) (hcap : cs.length ≤ cap) (hn : news.length = cs.length * 9) (hc : cs ≠ [] → ∃ b off, ao = some ⟨b, off, none⟩ ∧ ∀ j z, news[j]? = some z → u.cell? ⟨b, off + j, none⟩ = some z) (hl : cs.length ≤ 1048576) (hg1 : u.heap[g1]? = some (.cells #[] 57 (0, 0))) (hB : B ≤ g1) :
    ∃ v' u', (Builtin.append_ #[28, 28] 28 #[.slice (some ⟨g1, 0, none⟩) 0 0, sl]).run Tryd.prog u = .ok v' u' ∧ u'.ownsRow B 57 9 v' cs.length news ∧ Below u.heap.size u u' ∧ ∃ g c, v' = .slice (some ⟨g, 0, none⟩) cs.length c := by
  obtain ⟨i0, hi, hz0, hz1, hz2⟩ := info_parts infoC
  have hgl : g1 < u.heap.size := (Array.getElem?_eq_some_iff.1 hg1).1
  subst hsl
  by_cases h0 : cs = []
  · subst h0
    obtain rfl : news = [] := List.eq_nil_of_length_eq_zero (by simpa using hn)
    have hr0 : u.ownsRow B 57 9 (.slice (some ⟨g1, 0, none⟩) 0 0) 0 [] := ⟨rfl, Or.inr ⟨g1, 0, #[], rfl, by omega, hg1, Nat.le_refl _, Nat.zero_le _, rfl, rfl⟩⟩
    cases ao with
    | none =>
      refine ⟨.slice (some ⟨g1, 0, none⟩) 0 0, u, ?_, hr0, Below.refl _ _, g1, 0, rfl⟩
      simp [Builtin.append_, run_underlying Tryd.underlying28, sizeOf, typeInfo, hi, Builtin.lenOf, Builtin.firstCells, storeCells]
    | some a =>
      have hq := run_append_room_cells (P := Tryd.prog) u 28 28 57 i0 Tryd.underlying28 hi g1 0 0 0 a 0 cap [] (by simp) (by simp) (by simp) (Nat.le_refl _) (by simp) (by simp)
      exact ⟨_, _, hq, hr0, Below.refl _ _, g1, 0, rfl⟩
  · have hpos : 0 < cs.length := List.length_pos_iff.2 h0
    obtain ⟨b, off, rfl, hcc⟩ := hc h0
    obtain ⟨v', u', hr, hown, hgr⟩ := run_append_arg_grows (P := Tryd.prog) u 28 28 57 i0 _ 9 128 Tryd.underlying28 hi hz0 hz1 hz2 rfl (by decide) ⟨g1, 0, none⟩ 0 0 [] rfl (by simp) ⟨b, off, none⟩ cs.length cap news hn (fun j z hj => by
      rw [Addr.add_lit]; exact hcc j z hj) (by omega) (by unfold maxLen; omega) (by omega)
    have hown2 : u'.ownsRow u.heap.size 57 9 v' cs.length news := ⟨hn, by simpa using hown.2⟩
    refine ⟨v', u', hr, ⟨hown2.1, ?_⟩, ⟨hgr.os, hgr.tape, hgr.output, hgr.size, fun k hk => hgr.block k hk (by simp)⟩, ?_⟩
    · rcases hown2.2 with h | ⟨g, c, cur, e, hg, hh⟩
      · exact Or.inl h
      · exact Or.inr ⟨g, c, cur, e, by omega, hh⟩
    · rcases hown2.2 with ⟨_, h⟩ | ⟨g, c, cur, e, hg, hh⟩
      · omega
      · exact ⟨g, c, e⟩
end Go.Proofs.YtmhmlkdoaojimapDoor

/- The predicates of Control, and the name of a term's predicate. Of no program. -/
namespace Go.Proofs.YtmhmlkdoaojimapDoor

def ctlL : List (List UInt8) := [[116, 114, 117, 101, 47, 48], [102, 97, 105, 108, 47, 48], [33, 47, 48], [44, 47, 50], [59, 47, 50], [45, 62, 47, 50], [92, 43, 47, 49], [99, 97, 108, 108, 47, 49], [99, 97, 108, 108, 47, 50], [99, 97, 108, 108, 47, 51], [99, 97, 116, 99, 104, 47, 51], [116, 104, 114, 111, 119, 47, 49], [61, 47, 50], [92, 61, 47, 50], [61, 61, 47, 50], [105, 115, 47, 50], [60, 47, 50], [61, 58, 61, 47, 50], [118, 97, 114, 47, 49], [97, 116, 111, 109, 47, 49], [119, 114, 105, 116, 101, 47, 49], [97, 115, 115, 101, 114, 116, 122, 47, 49], [114, 101, 116, 114, 97, 99, 116, 47, 49], [58, 45, 47, 50], [58, 45, 47, 49], [45, 45, 62, 47, 50]]
/-- one of the predicates of Control -/
def ctlB (s : ByteArray) : Bool := ctlL.any fun l => s.toList == l
theorem ctl_no {s : ByteArray} (e0 : (s.toList == [116, 114, 117, 101, 47, 48]) = false) (e1 : (s.toList == [102, 97, 105, 108, 47, 48]) = false) (e2 : (s.toList == [33, 47, 48]) = false) (e3 : (s.toList == [44, 47, 50]) = false) (e4 : (s.toList == [59, 47, 50]) = false) (e5 : (s.toList == [45, 62, 47, 50]) = false) (e6 : (s.toList == [92, 43, 47, 49]) = false) (e7 : (s.toList == [99, 97, 108, 108, 47, 49]) = false) (e8 : (s.toList == [99, 97, 108, 108, 47, 50]) = false) (e9 : (s.toList == [99, 97, 108, 108, 47, 51]) = false) (e10 : (s.toList == [99, 97, 116, 99, 104, 47, 51]) = false) (e11 : (s.toList == [116, 104, 114, 111, 119, 47, 49]) = false) (e12 : (s.toList == [61, 47, 50]) = false) (e13 : (s.toList == [92, 61, 47, 50]) = false) (e14 : (s.toList == [61, 61, 47, 50]) = false) (e15 : (s.toList == [105, 115, 47, 50]) = false) (e16 : (s.toList == [60, 47, 50]) = false) (e17 : (s.toList == [61, 58, 61, 47, 50]) = false) (e18 : (s.toList == [118, 97, 114, 47, 49]) = false) (e19 : (s.toList == [97, 116, 111, 109, 47, 49]) = false) (e20 : (s.toList == [119, 114, 105, 116, 101, 47, 49]) = false) (e21 : (s.toList == [97, 115, 115, 101, 114, 116, 122, 47, 49]) = false) (e22 : (s.toList == [114, 101, 116, 114, 97, 99, 116, 47, 49]) = false) (e23 : (s.toList == [58, 45, 47, 50]) = false) (e24 : (s.toList == [58, 45, 47, 49]) = false) (e25 : (s.toList == [45, 45, 62, 47, 50]) = false) : ctlB s = false := by
  unfold ctlB ctlL
  simp only [List.any_cons, List.any_nil, Bool.or_false, e0, e1, e2, e3, e4, e5, e6, e7, e8, e9, e10, e11, e12, e13, e14, e15, e16, e17, e18, e19, e20, e21, e22, e23, e24, e25]
/-- a text is no constant -/
theorem toL_neq {s : ByteArray} {l : List UInt8} (h : ¬ s = ⟨l.toArray⟩) : (s.toList == l) = false := by
  rw [beq_eq_false_iff_ne]
  intro e
  apply h
  rw [ByteArray.toList_eq] at e
  subst e
  simp
theorem decI_le (n : Int) (h : -999999999 ≤ n ∧ n ≤ 999999999) : (decI n).length ≤ 11 := by
  unfold decI
  split
  · have := decR_len 10 n.natAbs (by omega)
    simp only [List.length_cons]; omega
  · unfold decB
    split
    · decide
    · have := decR_len 10 n.toNat (by omega)
      omega
/-- the name of a term's predicate; empty of one that has none -/
def predB : Tm → ByteArray
  | .mk k s _ ks => if k = 2 ∨ k = 4 then s ++ ⟨#[47]⟩ ++ ⟨(decI (ks.length : Int)).toArray⟩ else ⟨#[]⟩
end Go.Proofs.YtmhmlkdoaojimapDoor

/- The specification's figure of a number below 16. -/
namespace Go.Proofs.YtmhmlkdoaojimapDoor
open Go.RowKit

theorem figure_any (x : Int) (w : World) (h0 : 0 ≤ x) (h1 : x < 16) :
    Calls Tryd.prog 103 #[.int .i64 x] w fun e w' => e = .returned (.int .u8 ((fig x.toNat).toNat : Int)) ∧ w' = w := by
  by_cases h : x < 10
  · go_enter Tryd.func103, Tryd.ntmps103
    go_wp2
    go_ret
    refine ⟨?_, rfl⟩
    congr 2
    rw [fig_nat _ (by omega), if_pos (by omega)]
    simp; omega
  · go_enter Tryd.func103, Tryd.ntmps103
    go_wp2
    go_ret
    refine ⟨?_, rfl⟩
    congr 2
    rw [fig_nat _ (by omega), if_neg (by omega)]
    simp; omega
end Go.Proofs.YtmhmlkdoaojimapDoor
