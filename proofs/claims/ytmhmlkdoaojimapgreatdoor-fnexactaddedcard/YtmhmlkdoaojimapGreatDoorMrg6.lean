/- Four texts in one. -/
import Derived.Test.YtmhmlkdoaojimapGreatDoorMrg4
import Derived.Test.YtmhmlkdoaojimapGreatDoorMrg3
import Derived.Test.YtmhmlkdoaojimapGreatDoorMrg5
import Derived.Test.YtmhmlkdoaojimapGreatDoorMrg1
import Derived.Deep.DeepCutAuto
import Derived.ArgAppend
import Derived.Laws.OwnMore
import Derived.Tactics
import Derived.Lib.AppendZerosOnto
import Derived.Lib.Walk
import Derived.Lib.SliceRun
import Derived.Maps.AppendAt
/- laws.eqDb of the same. -/
namespace Go.Proofs.YtmhmlkdoaojimapGreatDoor
open Go.RowKit

theorem cell_of_row {w : World} {g : Nat} {cur : Array Value} {e : TypeId} {i : Nat} {v : Value} (h : w.heap[g]? = some (.cells cur e (0, 0))) (hi : cur[i]? = some v) : w.cell? ⟨g, i, none⟩ = some v := by
  unfold World.cell?
  simp only
  rw [h]
  exact hi

/-- a row of clauses of its own is one in memory -/
theorem OwnClS.toIn {ec e : TypeId} {w : World} {ks : List Cla} {sl : Value} {F : List Nat} (h : OwnClS ec e w ks sl F) : ClsIn w ks sl := by
  rcases h with ⟨rfl, rfl, rfl⟩ | ⟨g, cap, cs, F', rfl, h5, rfl, h6⟩
  · exact ⟨none, 0, rfl, Nat.le_refl _, Nat.zero_le _, fun h => absurd rfl h⟩
  · obtain ⟨hl, h5⟩ := h5
    rcases h5 with ⟨h5, _⟩ | ⟨g', cap', cur, e', _, hblk, hc1, hc2, hc3, hc4⟩
    · cases h5
    · simp only [Value.slice.injEq, Option.some.injEq, Addr.mk.injEq, and_true, true_and] at e'
      obtain ⟨rfl, rfl⟩ := e'
      refine ⟨_, cap, rfl, hc1, hc2, fun _ => ⟨g, 0, rfl, fun j hj => ?_⟩⟩
      obtain ⟨F1, ⟨k1, s1, n1, a1, l1, m1, k2, s2, n2, a2, l2, m2, F2, F3, hcc, _, hf, o1, o2⟩, _⟩ := h6.at j hj
      have hat : ∀ i, i < 9 → ∀ v, ((cs.drop (j * 9)).take 9)[i]? = some v → w.cell? ⟨g, 0 + j * 9 + i, none⟩ = some v := fun i hi v hv => by
        refine cell_of_row hblk ?_
        rw [List.getElem?_take, if_pos hi, List.getElem?_drop, ← hc4, List.getElem?_take] at hv
        split at hv
        · rw [Nat.zero_add]; simpa using hv
        · cases hv
      rw [hcc] at hat
      exact ⟨k1, s1, n1, a1, l1, m1, k2, s2, n2, a2, l2, m2, hat 0 (by omega) _ rfl, hat 1 (by omega) _ rfl, hat 2 (by omega) _ rfl, hat 3 (by omega) _ rfl, hat 4 (by omega) _ rfl, hat 5 (by omega) _ rfl, hat 6 (by omega) _ rfl, hat 7 (by omega) _ rfl, hat 8 (by omega) _ rfl, hf, Own.toIn _ _ _ o1, Own.toIn _ _ _ o2⟩

theorem owns_shape {w : World} {B e size n : Nat} {v : Value} {xs : List Value} (h : w.ownsRow B e size v n xs) : ∃ ao l c, v = .slice ao l c := by
  rcases h.2 with ⟨rfl, _⟩ | ⟨g, cap, cur, rfl, _⟩
  · exact ⟨_, _, _, rfl⟩
  · exact ⟨_, _, _, rfl⟩

set_option maxRecDepth 20000 in
theorem eq_db (cs : List Cla) (xs : List (List UInt8)) (w : World) (sa ta sb tb : Value) (ha : ClsIn w cs sa) (hb : ClsIn w cs sb) (hl : xs.length ≤ 1100000) (ga : w.ownsRow 0 9 1 ta xs.length (strsV xs)) (gb : w.ownsRow 0 9 1 tb xs.length (strsV xs)) :
    Calls Tryz.prog 10 #[.agg #[sa, ta], .agg #[sb, tb]] w fun e w' => e = .returned (.bool true) ∧ Below w.heap.size w w' := by
  obtain ⟨W, hW⟩ : ∃ W, W = (w.alloc (.cells #[sa, ta] 35)).alloc (.cells #[sb, tb] 35) := ⟨_, rfl⟩
  have bW : Below w.heap.size w W := by rw [hW]; exact ((Below.refl _ _).alloc (Nat.le_refl _) _).alloc (by simp) _
  have k1' : W.heap[w.heap.size]? = some (.cells #[sa, ta] 35 (0, 0)) := by rw [hW]; exact (alloc_old _ _ (by simp)).trans (alloc_at _ _ rfl)
  have k2' : W.heap[w.heap.size + 1]? = some (.cells #[sb, tb] 35 (0, 0)) := by rw [hW]; exact alloc_at _ _ (by simp)
  have HK : Hid (∀ w1, Below W.heap.size W w1 → w1.heap[w.heap.size]? = some (.cells #[sa, ta] 35 (0, 0)) ∧ w1.heap[w.heap.size + 1]? = some (.cells #[sb, tb] 35 (0, 0))) := fun w1 hb => ⟨(hb.block _ (Array.getElem?_eq_some_iff.1 k1').1).trans k1', (hb.block _ (Array.getElem?_eq_some_iff.1 k2').1).trans k2'⟩
  have HC1 : Hid _ := eq_clauses cs W sa sb (ha.keep bW) (hb.keep bW)
  have HC2 : Hid (∀ w1, Below W.heap.size W w1 → Calls Tryz.prog 27 #[ta, tb] w1 fun e w' => e = .returned (.bool true) ∧ Below w1.heap.size w1 w') := fun w1 h1 => eqS_same xs ta tb w1 hl (owns_below (owns_below ga bW) h1) (owns_below (owns_below gb bW) h1)
  have HBW : Hid (Below w.heap.size w W) := bW
  obtain ⟨a1, p1, rfl, -⟩ := ha
  obtain ⟨a2, p2, rfl, -⟩ := hb
  obtain ⟨a3, l3, p3, rfl⟩ := owns_shape ga
  obtain ⟨a4, l4, p4, rfl⟩ := owns_shape gb
  clear bW k1' k2' ga gb hl
  go_enter Tryz.func10, Tryz.ntmps10
  go_upto_region 1 with fail
  rw [← hW]
  clear hW
  have y0 := blk_cell (i := 0) (HK.out W (Below.refl _ _)).1 (by simp)
  have z0 := blk_cell (i := 0) (HK.out W (Below.refl _ _)).2 (by simp)
  go_upto_region 3 with (go_at_call 26; refine (Calls.mono HC1.out ?_); rintro e w1 ⟨rfl, hb⟩; have HB1 : Hid (Below W.heap.size W w1) := hb; clear hb)
  clear y0 z0
  have y0 := blk_cell (i := 1) (HK.out w1 HB1.out).1 (by simp)
  have z0 := blk_cell (i := 1) (HK.out w1 HB1.out).2 (by simp)
  have HC3 : Hid _ := HC2.out w1 HB1.out
  go_wp2_with (go_at_call 27; refine (Calls.mono HC3.out ?_); rintro e w2 ⟨rfl, hb⟩; have HB2 : Hid (Below W.heap.size W w2) := HB1.out.trans (hb.mono HB1.out.size); clear hb)
  go_ret
  exact ⟨rfl, HBW.out.trans (HB2.out.mono HBW.out.size)⟩
end Go.Proofs.YtmhmlkdoaojimapGreatDoor

/- The cells of a row of clauses, wherever they lie; a row behind a new one. -/
namespace Go.Proofs.YtmhmlkdoaojimapGreatDoor
open Go.RowKit

theorem row_keepB {w w' : World} {B e size n : Nat} {v : Value} {xs : List Value} (h : w.ownsRow B e size v n xs) (hb : ∀ b, v.ownBlock = some b → w'.heap[b]? = w.heap[b]?) : w'.ownsRow B e size v n xs := by
  rcases h.2 with ⟨rfl, hl⟩ | ⟨g, cap, cur, rfl, h1, hh, h2⟩
  · exact ⟨h.1, Or.inl ⟨rfl, hl⟩⟩
  · exact ⟨h.1, Or.inr ⟨g, cap, cur, rfl, h1, (hb g rfl).trans hh, h2⟩⟩

/-- nine cells each, and the terms that they tell -/
def ClsVals (w : World) (cs : List Cla) (news : List Value) : Prop :=
  news.length = cs.length * 9 ∧ ∀ j (hj : j < cs.length), ∃ k1 s1 n1 a1 l1 m1 k2 s2 n2 a2 l2 m2, (∀ r, r < 9 → news[j * 9 + r]? = [Value.int .i64 k1, .string s1, .int .i64 n1, .slice a1 l1 m1, .int .i64 k2, .string s2, .int .i64 n2, .slice a2 l2 m2, .string cs[j].f][r]?) ∧
    cs[j].f.size ≤ maxLen ∧ TmIn w cs[j].h (.agg #[.int .i64 k1, .string s1, .int .i64 n1, .slice a1 l1 m1]) ∧ TmIn w cs[j].b (.agg #[.int .i64 k2, .string s2, .int .i64 n2, .slice a2 l2 m2])
theorem ClsVals.keep {w w' : World} {cs : List Cla} {news : List Value} (h : ClsVals w cs news) (hb : Below w.heap.size w w') : ClsVals w' cs news := by
  refine ⟨h.1, fun j hj => ?_⟩
  obtain ⟨k1, s1, n1, a1, l1, m1, k2, s2, n2, a2, l2, m2, h1, h2, h3, h4⟩ := h.2 j hj
  exact ⟨k1, s1, n1, a1, l1, m1, k2, s2, n2, a2, l2, m2, h1, h2, TmIn.keep hb _ _ h3, TmIn.keep hb _ _ h4⟩

theorem cls_vals {w : World} {cs : List Cla} {v : Value} (h : ClsIn w cs v) : ∃ ao cap news, v = .slice ao cs.length cap ∧ cs.length ≤ cap ∧ cap ≤ maxLen ∧ ClsVals w cs news ∧ (cs ≠ [] → ∃ b off, ao = some ⟨b, off, none⟩ ∧ ∀ j z, news[j]? = some z → w.cell? ⟨b, off + j, none⟩ = some z) := by
  obtain ⟨ao, cap, rfl, h1, h2, h3⟩ := h
  by_cases h0 : cs = []
  · subst h0
    exact ⟨ao, cap, [], rfl, h1, h2, ⟨rfl, fun j hj => by simp at hj⟩, fun h => absurd rfl h⟩
  · obtain ⟨b, off, rfl, hr⟩ := h3 h0
    have hget : ∀ i, i < cs.length * 9 → ∃ z, w.cell? ⟨b, off + i, none⟩ = some z := fun i hi => by
      have hj : i / 9 < cs.length := by omega
      obtain ⟨k1, s1, n1, a1, l1, m1, k2, s2, n2, a2, l2, m2, q0, q1, q2, q3, q4, q5, q6, q7, q8, _⟩ := hr (i / 9) hj
      have hi9 : off + i = off + i / 9 * 9 + i % 9 := by omega
      have hm : i % 9 < 9 := Nat.mod_lt _ (by omega)
      rw [hi9]
      generalize i % 9 = r at hm
      match r, hm with
      | 0, _ => exact ⟨_, q0⟩
      | 1, _ => exact ⟨_, q1⟩
      | 2, _ => exact ⟨_, q2⟩
      | 3, _ => exact ⟨_, q3⟩
      | 4, _ => exact ⟨_, q4⟩
      | 5, _ => exact ⟨_, q5⟩
      | 6, _ => exact ⟨_, q6⟩
      | 7, _ => exact ⟨_, q7⟩
      | 8, _ => exact ⟨_, q8⟩
    have hnew : ∀ i, i < cs.length * 9 → ((List.range (cs.length * 9)).map fun i => (w.cell? ⟨b, off + i, none⟩).getD undef)[i]? = w.cell? ⟨b, off + i, none⟩ := fun i hi => by
      obtain ⟨z, hz⟩ := hget i hi
      rw [List.getElem?_map, List.getElem?_range hi, Option.map_some, hz]
      rfl
    refine ⟨_, cap, (List.range (cs.length * 9)).map fun i => (w.cell? ⟨b, off + i, none⟩).getD undef, rfl, h1, h2, ⟨by simp, fun j hj => ?_⟩, fun _ => ⟨b, off, rfl, fun i z hz => ?_⟩⟩
    · obtain ⟨k1, s1, n1, a1, l1, m1, k2, s2, n2, a2, l2, m2, q0, q1, q2, q3, q4, q5, q6, q7, q8, qf, q9, q10⟩ := hr j hj
      refine ⟨k1, s1, n1, a1, l1, m1, k2, s2, n2, a2, l2, m2, fun r hr9 => ?_, qf, q9, q10⟩
      rw [hnew _ (by omega), ← Nat.add_assoc]
      match r, hr9 with
      | 0, _ => exact q0
      | 1, _ => exact q1
      | 2, _ => exact q2
      | 3, _ => exact q3
      | 4, _ => exact q4
      | 5, _ => exact q5
      | 6, _ => exact q6
      | 7, _ => exact q7
      | 8, _ => exact q8
    · have hi : i < cs.length * 9 := by
        have := (List.getElem?_eq_some_iff.1 hz).1
        simpa using this
      rw [← hnew i hi]
      exact hz

theorem vals_in {w : World} {B : Nat} {cs : List Cla} {v : Value} {news : List Value} (h : w.ownsRow B 43 9 v cs.length news) (hv : ClsVals w cs news) : ClsIn w cs v := by
  rcases h.2 with ⟨rfl, hl⟩ | ⟨g, cap, cur, rfl, _, hh, hnc, hcm, hcs, htk⟩
  · exact ⟨none, 0, by rw [hl], by omega, by unfold maxLen; omega, fun hne => absurd (List.eq_nil_of_length_eq_zero hl) hne⟩
  · refine ⟨_, cap, rfl, hnc, hcm, fun _ => ⟨g, 0, rfl, fun j hj => ?_⟩⟩
    obtain ⟨k1, s1, n1, a1, l1, m1, k2, s2, n2, a2, l2, m2, h1, h2, h3, h4⟩ := hv.2 j hj
    have hat : ∀ r, r < 9 → ∀ z, [Value.int .i64 k1, .string s1, .int .i64 n1, .slice a1 l1 m1, .int .i64 k2, .string s2, .int .i64 n2, .slice a2 l2 m2, .string cs[j].f][r]? = some z → w.cell? ⟨g, 0 + j * 9 + r, none⟩ = some z := fun r hr z hz => by
      refine cell_of_row hh ?_
      rw [← h1 r hr, ← htk, List.getElem?_take] at hz
      split at hz
      · rw [Nat.zero_add]; simpa using hz
      · cases hz
    exact ⟨k1, s1, n1, a1, l1, m1, k2, s2, n2, a2, l2, m2, hat 0 (by omega) _ rfl, hat 1 (by omega) _ rfl, hat 2 (by omega) _ rfl, hat 3 (by omega) _ rfl, hat 4 (by omega) _ rfl, hat 5 (by omega) _ rfl, hat 6 (by omega) _ rfl, hat 7 (by omega) _ rfl, hat 8 (by omega) _ rfl, h2, h3, h4⟩

/-- all clauses behind a new row with no room: their cells alone -/
theorem app_clauses (cs : List Cla) (u : World) (sl : Value) (news : List Value) (ao : Option Addr) (cap : Nat) (g1 : Nat) (B : Nat) (hsl : sl = .slice ao cs.length cap) (hcap : cs.length ≤ cap) (hn : news.length = cs.length * 9) (hc : cs ≠ [] → ∃ b off, ao = some ⟨b, off, none⟩ ∧ ∀ j z, news[j]? = some z → u.cell? ⟨b, off + j, none⟩ = some z) (hl : cs.length ≤ 1048576) (hg1 : u.heap[g1]? = some (.cells #[] 43 (0, 0))) (hB : B ≤ g1) :
    ∃ v' u', (Builtin.append_ #[33, 33] 33 #[.slice (some ⟨g1, 0, none⟩) 0 0, sl]).run Tryz.prog u = .ok v' u' ∧ u'.ownsRow B 43 9 v' cs.length news ∧ Below u.heap.size u u' ∧ ∃ g c, v' = .slice (some ⟨g, 0, none⟩) cs.length c := by
  obtain ⟨i0, hi, hz0, hz1, hz2⟩ := info_parts infoC
  have hgl : g1 < u.heap.size := (Array.getElem?_eq_some_iff.1 hg1).1
  subst hsl
  by_cases h0 : cs = []
  · subst h0
    obtain rfl : news = [] := List.eq_nil_of_length_eq_zero (by simpa using hn)
    have hr0 : u.ownsRow B 43 9 (.slice (some ⟨g1, 0, none⟩) 0 0) 0 [] := ⟨rfl, Or.inr ⟨g1, 0, #[], rfl, by omega, hg1, Nat.le_refl _, Nat.zero_le _, rfl, rfl⟩⟩
    cases ao with
    | none =>
      refine ⟨.slice (some ⟨g1, 0, none⟩) 0 0, u, ?_, hr0, Below.refl _ _, g1, 0, rfl⟩
      simp [Builtin.append_, run_underlying Tryz.underlying33, sizeOf, typeInfo, hi, Builtin.lenOf, Builtin.firstCells, storeCells]
    | some a =>
      have hq := run_append_room_cells (P := Tryz.prog) u 33 33 43 i0 Tryz.underlying33 hi g1 0 0 0 a 0 cap [] (by simp) (by simp) (by simp) (Nat.le_refl _) (by simp) (by simp)
      exact ⟨_, _, hq, hr0, Below.refl _ _, g1, 0, rfl⟩
  · have hpos : 0 < cs.length := List.length_pos_iff.2 h0
    obtain ⟨b, off, rfl, hcc⟩ := hc h0
    obtain ⟨v', u', hr, hown, hgr⟩ := run_append_arg_grows (P := Tryz.prog) u 33 33 43 i0 _ 9 128 Tryz.underlying33 hi hz0 hz1 hz2 rfl (by decide) ⟨g1, 0, none⟩ 0 0 [] rfl (by simp) ⟨b, off, none⟩ cs.length cap news hn (fun j z hj => by
      rw [Addr.add_lit]; exact hcc j z hj) (by omega) (by unfold maxLen; omega) (by omega)
    have hown2 : u'.ownsRow u.heap.size 43 9 v' cs.length news := ⟨hn, by simpa using hown.2⟩
    refine ⟨v', u', hr, ⟨hown2.1, ?_⟩, ⟨hgr.os, hgr.tape, hgr.output, hgr.size, fun k hk => hgr.block k hk (by simp)⟩, ?_⟩
    · rcases hown2.2 with h | ⟨g, c, cur, e, hg, hh⟩
      · exact Or.inl h
      · exact Or.inr ⟨g, c, cur, e, by omega, hh⟩
    · rcases hown2.2 with ⟨_, h⟩ | ⟨g, c, cur, e, hg, hh⟩
      · omega
      · exact ⟨g, c, e⟩
end Go.Proofs.YtmhmlkdoaojimapGreatDoor

/- An append whose answer is known, as a law for the walk. Of no program. -/
namespace Go.Proofs.YtmhmlkdoaojimapGreatDoor
open Go

theorem wpList_append_run {P : Program} {w : World} {ops : Array Oper} {rest : List Oper} {o : Oper} {a : Act} {Q : Exit → Act → World → Prop} (hgd : o.guard = none) (s x : Operand) (t : TypeId)
    (ho : o.op = .call { callee := .builtin .append, args := #[s, x], argTypes := #[t, t] }) (v xv v' : Value) (w' : World) (hs : a.eval s = v) (hx : a.eval x = xv)
    (hrun : (Builtin.append_ #[t, t] o.type #[v, xv]).run P w = .ok v' w') (h : wpList P ops Q rest (a.put o.dst v') w') : wpList P ops Q (o :: rest) a w := by
  refine wpList_plain hgd fun K hK => ?_
  unfold Oper.wp
  simp [execOp, ho, resolve, invoke, builtin, hs, hx, hrun, Result.andThen]
  exact hK _ _ h
end Go.Proofs.YtmhmlkdoaojimapGreatDoor

/- slices.Grow of no clauses; slices.Concat of a row of clauses and one more. -/
namespace Go.Proofs.YtmhmlkdoaojimapGreatDoor
open Go.RowKit

theorem wpList_append_runZ {P : Program} {w : World} {ops : Array Oper} {rest : List Oper} {o : Oper} {a : Act} {Q : Exit → Act → World → Prop} (hgd : o.guard = none) (s x : Operand) (t tn : TypeId)
    (ho : o.op = .call { callee := .builtin .append, args := #[s, x], argTypes := #[t, tn] }) (v xv v' : Value) (w' : World) (hs : a.eval s = v) (hx : a.eval x = xv)
    (hrun : ∀ ty, (Builtin.append_ #[t, tn] ty #[v, xv]).run P w = .ok v' w') (h : wpList P ops Q rest (a.put o.dst v') w') : wpList P ops Q (o :: rest) a w := by
  refine wpList_plain hgd fun K hK => ?_
  unfold Oper.wp
  simp [execOp, ho, resolve, invoke, builtin, hs, hx, hrun o.type, Result.andThen]
  exact hK _ _ h

set_option maxHeartbeats 4000000 in
set_option maxRecDepth 20000 in
theorem i_grow (n : Nat) (hn : 0 < n) (hn2 : n ≤ 1100001) (w : World) :
    Calls Tryz.prog 40 #[.slice none 0 0, .int .i64 (n : Int)] w fun e w' => ∃ (cap : Nat) (M : Array Value), e = .returned (.slice (some ⟨w.heap.size, 0, none⟩) 0 cap) ∧ n ≤ cap ∧ cap ≤ maxLen ∧ w'.heap[w.heap.size]? = some (.cells M 43 (0, 0)) ∧ M.size = cap * 9 ∧ Below w.heap.size w w' := by
  obtain ⟨i0, hi, hz0, hz1, hz2⟩ := info_parts infoC
  have hz3 : (Value.agg #[.int .i64 0, .string ⟨#[]⟩, .int .i64 0, .slice none 0 0, .int .i64 0, .string ⟨#[]⟩, .int .i64 0, .slice none 0 0, .string ⟨#[]⟩]).cells.size = 9 := rfl
  have hge := grownCap_ge w (0 + n) 0 43
  have hle := grownCap_le_maxLen w (0 + n) 0 43 (by unfold maxLen; omega)
  have hold : (Builtin.firstCells i0.size 0 (.slice none 0 0)).run Tryz.prog w.drew = .ok (#[] : Array Value) w.drew := run_firstCells_none w.drew i0.size 0 0 0
  have hrun : ∀ ty, (Builtin.append_ #[33, 3] ty #[.slice none 0 0, .int .i64 (n : Int)]).run Tryz.prog w = .ok _ _ := fun ty => Lib.run_append_grow_zeros w 33 3 ty 43 i0 _ .i64 .i64 Tryz.underlying33 Tryz.underlying3 hi hz0 none 0 0 [] hold n hn (by rw [hz1]; omega) (by omega) (by omega) (by rw [hz2]; omega) (growslice_fits (by omega) (by rw [hz2]; omega))
  generalize hcapv : grownCap w (0 + n) 0 43 = cap at hge hle hrun
  have hh1 : ¬ ((n : Int) < 0) := by omega
  have hh2 : (0 : Int) < (n : Int) := by omega
  obtain ⟨M, hM⟩ : ∃ M, M = (([] : List Value).toArray ++ Builtin.zeroCells (Value.agg #[.int .i64 0, .string ⟨#[]⟩, .int .i64 0, .slice none 0 0, .int .i64 0, .string ⟨#[]⟩, .int .i64 0, .slice none 0 0, .string ⟨#[]⟩]).cells n ++ Builtin.zeroCells (Value.agg #[.int .i64 0, .string ⟨#[]⟩, .int .i64 0, .slice none 0 0, .int .i64 0, .string ⟨#[]⟩, .int .i64 0, .slice none 0 0, .string ⟨#[]⟩]).cells (cap - (0 + n))) := ⟨_, rfl⟩
  rw [← hM] at hrun
  have HM : Hid (M.size = cap * 9) := by
    show _ = _
    rw [hM]
    simp only [Array.size_append, size_zeroCells]
    rw [hz3]
    simp
    omega
  have HC : Hid (n ≤ cap ∧ cap ≤ maxLen) := ⟨by omega, hle⟩
  clear hM hge hold hle
  go_enter Tryz.func40, Tryz.ntmps40
  go_wp2_with (at_builtin; refine wpList_append_runZ rfl _ _ 33 3 rfl _ _ _ _ rfl rfl hrun ?_)
  go_ret
  have hd : Below w.heap.size w w.drew := (Below.refl _ _).drew
  exact ⟨cap, rfl, HC.out.1, HC.out.2, M, heap_alloc_new _ _, HM.out, hd.alloc (Nat.le_refl _) _⟩

/-- what stands in a row, behind what stands in another one of the call's own -/
theorem app_own (u : World) (B n : Nat) (v : Value) (xs : List Value) (hown : u.ownsRow B 43 9 v n xs) (hB : B ≤ u.heap.size) (ao : Option Addr) (m cap : Nat) (news : List Value) (hn : news.length = m * 9) (hnm : n + m ≤ 1100001) (hc : m ≠ 0 → ∃ b off, ao = some ⟨b, off, none⟩ ∧ ∀ j z, news[j]? = some z → u.cell? ⟨b, off + j, none⟩ = some z) (h1 : ∀ z ∈ news, z.oneCell' = true) :
    ∃ v' u', (Builtin.append_ #[33, 33] 33 #[v, .slice ao m cap]).run Tryz.prog u = .ok v' u' ∧ u'.ownsRow B 43 9 v' (n + m) (xs ++ news) ∧ u.grownBy u' v.ownBlock := by
  obtain ⟨i0, hi, hz0, hz1, hz2⟩ := info_parts infoC
  by_cases h0 : m = 0 ∧ ao = none
  · obtain ⟨rfl, rfl⟩ := h0
    obtain rfl : news = [] := List.eq_nil_of_length_eq_zero (by simpa using hn)
    refine ⟨v, u, ?_, by simpa using hown, ⟨rfl, rfl, rfl, Nat.le_refl _, fun _ _ _ => rfl⟩⟩
    rcases hown.2 with ⟨rfl, rfl⟩ | ⟨g, c, cur, rfl, _, hh, hnc, _⟩
    · simp [Builtin.append_, run_underlying Tryz.underlying33, sizeOf, typeInfo, hi, Builtin.lenOf, Builtin.firstCells]
    · simp [Builtin.append_, run_underlying Tryz.underlying33, sizeOf, typeInfo, hi, Builtin.lenOf, Builtin.firstCells, storeCells, hnc]
  · obtain ⟨a, rfl, hcell⟩ : ∃ a : Addr, ao = some a ∧ ∀ j z, news[j]? = some z → u.cell? (a.add j) = some z := by
      by_cases hm : m = 0
      · cases ao with
        | none => exact absurd ⟨hm, rfl⟩ h0
        | some a =>
          refine ⟨a, rfl, fun j z hj => ?_⟩
          obtain rfl : news = [] := List.eq_nil_of_length_eq_zero (by rw [hn, hm])
          cases hj
      · obtain ⟨b, off, rfl, h⟩ := hc hm
        exact ⟨_, rfl, fun j z hj => by rw [Addr.add_lit]; exact h j z hj⟩
    obtain ⟨v', u', h2, h3, h4, _⟩ := run_append_own_at (P := Tryz.prog) u B 33 33 43 i0 _ 9 128 Tryz.underlying33 hi hz0 hz1 hz2 rfl (by decide) v n xs hown a m cap news hn hcell h1 (by unfold maxLen; omega) (by omega) hB
    exact ⟨v', u', h2, h3, h4⟩

set_option maxHeartbeats 8000000 in
set_option maxRecDepth 20000 in
theorem i_concat (n : Nat) (hn : n ≤ 1100000) (w : World) (ao : Option Addr) (cap : Nat) (news : List Value) (hl : news.length = n * 9) (hc : n ≠ 0 → ∃ b off, ao = some ⟨b, off, none⟩ ∧ ∀ j z, news[j]? = some z → w.cell? ⟨b, off + j, none⟩ = some z) (h1 : ∀ z ∈ news, z.oneCell' = true) (bb : Nat) (cc : List Value) (hcc : cc.length = 1 * 9) (hb : ∀ j z, cc[j]? = some z → w.cell? ⟨bb, 0 + j, none⟩ = some z) (h2 : ∀ z ∈ cc, z.oneCell' = true) (gl : Nat) (hgl : w.heap[gl]? = some (.cells #[.slice ao n cap, .slice (some ⟨bb, 0, none⟩) 1 1] 33 (0, 0))) :
    Calls Tryz.prog 23 #[.slice (some ⟨gl, 0, none⟩) 2 2] w fun e w' => ∃ v, e = .returned v ∧ w'.ownsRow w.heap.size 43 9 v (n + 1) (news ++ cc) ∧ Below w.heap.size w w' := by
  have x0 := blk_cell (i := 0) hgl (by simp)
  have x1 := blk_cell (i := 1) hgl (by simp)
  have hni : (n : Int) ≤ 1100000 := by omega
  have HN : Hid (n ≤ 1100000) := hn
  have HG : Hid (w.heap[gl]? = _) := hgl
  have e1 : (0 : Int) + (n : Int) = (n : Int) := by omega
  have e2 : wrap64 ((n : Int) + 1) = (n : Int) + 1 := by unfold wrap64; omega
  have e3 : ¬ ((n : Int) < 0) := by omega
  have e4 : ¬ ((n : Int) + 1 < 0) := by omega
  clear hn hgl
  go_enter Tryz.func23, Tryz.ntmps23
  go_upto_region 3 with fail
  refine wp_loop_rounds 3 ?_
  rw [rounds_succ]
  go_wp2
  rw [rounds_succ]
  go_wp2
  rw [rounds_succ]
  go_wp2_with (go_at_call 40; refine (Calls.mono (i_grow (n + 1) (by omega) (by have := HN.out; omega) w) ?_); rintro e w1 ⟨c1, M, rfl, g1, g2, g3, g4, g5⟩; have HGR : Hid (w1.heap[w.heap.size]? = some (.cells M 43 (0, 0)) ∧ M.size = c1 * 9 ∧ n + 1 ≤ c1 ∧ c1 ≤ maxLen ∧ Below w.heap.size w w1) := ⟨g3, g4, g1, g2, g5⟩; clear g1 g2 g3 g4 g5)
  clear x0 x1
  have hglw := (Array.getElem?_eq_some_iff.1 HG.out).1
  obtain ⟨m1, m2, m3, m4, m5⟩ := HGR.out
  have hgl1 := (m5.block gl hglw).trans HG.out
  have y0 := blk_cell (i := 0) hgl1 (by simp)
  have hown0 : w1.ownsRow w.heap.size 43 9 (.slice (some ⟨w.heap.size, 0, none⟩) 0 c1) 0 [] := ⟨rfl, Or.inr ⟨w.heap.size, c1, M, rfl, Nat.le_refl _, m1, Nat.zero_le _, m4, m2, rfl⟩⟩
  obtain ⟨v1, u1, hr1, r1, gr1⟩ := app_own w1 w.heap.size 0 _ [] hown0 m5.size ao n cap news hl (by have := HN.out; omega) (fun hne => by
    obtain ⟨b, off, e, h⟩ := hc hne
    exact ⟨b, off, e, fun j z hj => cell_keep (h j z hj) m5⟩) h1
  have hb1 : Below w.heap.size w u1 := ⟨gr1.os.trans m5.os, gr1.tape.trans m5.tape, gr1.output.trans m5.output, Nat.le_trans m5.size gr1.size, fun k hk => (gr1.block k (Nat.lt_of_lt_of_le hk m5.size) (by simp [Value.ownBlock]; omega)).trans (m5.block k hk)⟩
  have hgl2 := (hb1.block gl hglw).trans HG.out
  have y1 := blk_cell (i := 1) hgl2 (by simp)
  rw [Nat.zero_add, List.nil_append] at r1
  obtain ⟨v2, u2, hr2, r2, gr2⟩ := app_own u1 w.heap.size n v1 news r1 hb1.size (some ⟨bb, 0, none⟩) 1 1 cc hcc (by have := HN.out; omega) (fun _ => ⟨bb, 0, rfl, fun j z hj => cell_keep (hb j z hj) hb1⟩) h2
  have HFIN : Hid (u2.ownsRow w.heap.size 43 9 v2 (n + 1) (news ++ cc) ∧ Below w.heap.size w u2) := ⟨r2, ⟨gr2.os.trans hb1.os, gr2.tape.trans hb1.tape, gr2.output.trans hb1.output, Nat.le_trans hb1.size gr2.size, fun k hk => (gr2.block k (Nat.lt_of_lt_of_le hk hb1.size) (fun e => by have := (r1.lt k e.symm).1; omega)).trans (hb1.block k hk)⟩⟩
  clear m1 m2 m3 m4 m5 hgl1 hown0 r1 gr1 hb1 hgl2 r2 gr2 hglw hl hc h1 hcc hb h2
  refine wp_loop_rounds 3 ?_
  rw [rounds_succ]
  go_wp2_with (at_builtin; refine wpList_append_run rfl _ _ 33 rfl _ _ _ _ rfl rfl hr1 ?_)
  clear y0 hr1
  go_wp2
  rw [rounds_succ]
  go_wp2_with (at_builtin; refine wpList_append_run rfl _ _ 33 rfl _ _ _ _ rfl rfl hr2 ?_)
  clear y1 hr2
  rw [rounds_succ]
  go_wp2
  go_ret
  exact ⟨v2, rfl, HFIN.out⟩
end Go.Proofs.YtmhmlkdoaojimapGreatDoor
