/- Four texts in one. -/
import Derived.Test.YtmhmlkdoaojimapMrg11
import Derived.Test.YtmhmlkdoaojimapMrg5
import Derived.Test.YtmhmlkdoaojimapMrg8
import Derived.ArgAppend
import Derived.Laws.OwnMore
import Derived.Tactics
/- A Db held, for the laws' frames. -/
namespace Go.Proofs.Ytmhmlkdoaojimap
open Go.RowKit

theorem held_dbO (cs : List Cla) (n : Nat) (w : World) (c0 c1 : Value) (h : DbMarked w cs n c0 c1) (hcm : 1 + claNs cs ≤ 1000000000) (hl : n ≤ 1100000) :
    Calls Try.prog 10 #[.agg #[c0, c1], .int .i64 1] w fun e w' => e = .returned (.int .i64 ((1 + claNs cs + n : Nat) : Int)) ∧ Below w.heap.size w w' :=
  held_db cs n w c0 c1 1 h.1 h.2 (by omega) hcm hl
end Go.Proofs.Ytmhmlkdoaojimap

/- The cells of a row of clauses, wherever they lie; a row behind a new one. -/
namespace Go.Proofs.Ytmhmlkdoaojimap
open Go.RowKit

theorem row_keepB {w w' : World} {B e size n : Nat} {v : Value} {xs : List Value} (h : w.ownsRow B e size v n xs) (hb : ∀ b, v.ownBlock = some b → w'.heap[b]? = w.heap[b]?) : w'.ownsRow B e size v n xs := by
  rcases h.2 with ⟨rfl, hl⟩ | ⟨g, cap, cur, rfl, h1, hh, h2⟩
  · exact ⟨h.1, Or.inl ⟨rfl, hl⟩⟩
  · exact ⟨h.1, Or.inr ⟨g, cap, cur, rfl, h1, (hb g rfl).trans hh, h2⟩⟩

/-- nine cells each, and the terms that they tell -/
def ClsVals (w : World) (cs : List Cla) (news : List Value) : Prop :=
  news.length = cs.length * 9 ∧ ∀ j (hj : j < cs.length), ∃ k1 s1 n1 a1 l1 m1 k2 s2 n2 a2 l2 m2, (∀ r, r < 9 → news[j * 9 + r]? = [Value.int .i64 k1, .string s1, .int .i64 n1, .slice a1 l1 m1, .int .i64 k2, .string s2, .int .i64 n2, .slice a2 l2 m2, .string cs[j].f][r]?) ∧
    cs[j].f.size ≤ maxLen ∧ TmIn w cs[j].h (.agg #[.int .i64 k1, .string s1, .int .i64 n1, .slice a1 l1 m1]) ∧ TmIn w cs[j].b (.agg #[.int .i64 k2, .string s2, .int .i64 n2, .slice a2 l2 m2])
theorem ClsVals.keep {w w' : World} {cs : List Cla} {news : List Value} (h : ClsVals w cs news) (hb : Below w.heap.size w w') : ClsVals w' cs news := by
  refine ⟨h.1, fun j hj => ?_⟩
  obtain ⟨k1, s1, n1, a1, l1, m1, k2, s2, n2, a2, l2, m2, h1, h2, h3, h4⟩ := h.2 j hj
  exact ⟨k1, s1, n1, a1, l1, m1, k2, s2, n2, a2, l2, m2, h1, h2, TmIn.keep hb _ _ h3, TmIn.keep hb _ _ h4⟩

theorem cls_vals {w : World} {cs : List Cla} {v : Value} (h : ClsIn w cs v) : ∃ ao cap news, v = .slice ao cs.length cap ∧ cs.length ≤ cap ∧ cap ≤ maxLen ∧ ClsVals w cs news ∧ (cs ≠ [] → ∃ b off, ao = some ⟨b, off, none⟩ ∧ ∀ j z, news[j]? = some z → w.cell? ⟨b, off + j, none⟩ = some z) := by
  obtain ⟨ao, cap, rfl, h1, h2, h3⟩ := h
  by_cases h0 : cs = []
  · subst h0
    exact ⟨ao, cap, [], rfl, h1, h2, ⟨rfl, fun j hj => by simp at hj⟩, fun h => absurd rfl h⟩
  · obtain ⟨b, off, rfl, hr⟩ := h3 h0
    have hget : ∀ i, i < cs.length * 9 → ∃ z, w.cell? ⟨b, off + i, none⟩ = some z := fun i hi => by
      have hj : i / 9 < cs.length := by omega
      obtain ⟨k1, s1, n1, a1, l1, m1, k2, s2, n2, a2, l2, m2, q0, q1, q2, q3, q4, q5, q6, q7, q8, _⟩ := hr (i / 9) hj
      have hi9 : off + i = off + i / 9 * 9 + i % 9 := by omega
      have hm : i % 9 < 9 := Nat.mod_lt _ (by omega)
      rw [hi9]
      generalize i % 9 = r at hm
      match r, hm with
      | 0, _ => exact ⟨_, q0⟩
      | 1, _ => exact ⟨_, q1⟩
      | 2, _ => exact ⟨_, q2⟩
      | 3, _ => exact ⟨_, q3⟩
      | 4, _ => exact ⟨_, q4⟩
      | 5, _ => exact ⟨_, q5⟩
      | 6, _ => exact ⟨_, q6⟩
      | 7, _ => exact ⟨_, q7⟩
      | 8, _ => exact ⟨_, q8⟩
    have hnew : ∀ i, i < cs.length * 9 → ((List.range (cs.length * 9)).map fun i => (w.cell? ⟨b, off + i, none⟩).getD undef)[i]? = w.cell? ⟨b, off + i, none⟩ := fun i hi => by
      obtain ⟨z, hz⟩ := hget i hi
      rw [List.getElem?_map, List.getElem?_range hi, Option.map_some, hz]
      rfl
    refine ⟨_, cap, (List.range (cs.length * 9)).map fun i => (w.cell? ⟨b, off + i, none⟩).getD undef, rfl, h1, h2, ⟨by simp, fun j hj => ?_⟩, fun _ => ⟨b, off, rfl, fun i z hz => ?_⟩⟩
    · obtain ⟨k1, s1, n1, a1, l1, m1, k2, s2, n2, a2, l2, m2, q0, q1, q2, q3, q4, q5, q6, q7, q8, qf, q9, q10⟩ := hr j hj
      refine ⟨k1, s1, n1, a1, l1, m1, k2, s2, n2, a2, l2, m2, fun r hr9 => ?_, qf, q9, q10⟩
      rw [hnew _ (by omega), ← Nat.add_assoc]
      match r, hr9 with
      | 0, _ => exact q0
      | 1, _ => exact q1
      | 2, _ => exact q2
      | 3, _ => exact q3
      | 4, _ => exact q4
      | 5, _ => exact q5
      | 6, _ => exact q6
      | 7, _ => exact q7
      | 8, _ => exact q8
    · have hi : i < cs.length * 9 := by
        have := (List.getElem?_eq_some_iff.1 hz).1
        simpa using this
      rw [← hnew i hi]
      exact hz

theorem vals_in {w : World} {B : Nat} {cs : List Cla} {v : Value} {news : List Value} (h : w.ownsRow B 56 9 v cs.length news) (hv : ClsVals w cs news) : ClsIn w cs v := by
  rcases h.2 with ⟨rfl, hl⟩ | ⟨g, cap, cur, rfl, _, hh, hnc, hcm, hcs, htk⟩
  · exact ⟨none, 0, by rw [hl], by omega, by unfold maxLen; omega, fun hne => absurd (List.eq_nil_of_length_eq_zero hl) hne⟩
  · refine ⟨_, cap, rfl, hnc, hcm, fun _ => ⟨g, 0, rfl, fun j hj => ?_⟩⟩
    obtain ⟨k1, s1, n1, a1, l1, m1, k2, s2, n2, a2, l2, m2, h1, h2, h3, h4⟩ := hv.2 j hj
    have hat : ∀ r, r < 9 → ∀ z, [Value.int .i64 k1, .string s1, .int .i64 n1, .slice a1 l1 m1, .int .i64 k2, .string s2, .int .i64 n2, .slice a2 l2 m2, .string cs[j].f][r]? = some z → w.cell? ⟨g, 0 + j * 9 + r, none⟩ = some z := fun r hr z hz => by
      refine cell_of_row hh ?_
      rw [← h1 r hr, ← htk, List.getElem?_take] at hz
      split at hz
      · rw [Nat.zero_add]; simpa using hz
      · cases hz
    exact ⟨k1, s1, n1, a1, l1, m1, k2, s2, n2, a2, l2, m2, hat 0 (by omega) _ rfl, hat 1 (by omega) _ rfl, hat 2 (by omega) _ rfl, hat 3 (by omega) _ rfl, hat 4 (by omega) _ rfl, hat 5 (by omega) _ rfl, hat 6 (by omega) _ rfl, hat 7 (by omega) _ rfl, hat 8 (by omega) _ rfl, h2, h3, h4⟩

/-- all clauses behind a new row with no room: their cells alone -/
theorem app_clauses (cs : List Cla) (u : World) (sl : Value) (news : List Value) (ao : Option Addr) (cap : Nat) (g1 : Nat) (B : Nat) (hsl : sl = .slice ao cs.length cap) (hcap : cs.length ≤ cap) (hn : news.length = cs.length * 9) (hc : cs ≠ [] → ∃ b off, ao = some ⟨b, off, none⟩ ∧ ∀ j z, news[j]? = some z → u.cell? ⟨b, off + j, none⟩ = some z) (hl : cs.length ≤ 1048576) (hg1 : u.heap[g1]? = some (.cells #[] 56 (0, 0))) (hB : B ≤ g1) :
    ∃ v' u', (Builtin.append_ #[27, 27] 27 #[.slice (some ⟨g1, 0, none⟩) 0 0, sl]).run Try.prog u = .ok v' u' ∧ u'.ownsRow B 56 9 v' cs.length news ∧ Below u.heap.size u u' ∧ ∃ g c, v' = .slice (some ⟨g, 0, none⟩) cs.length c := by
  obtain ⟨i0, hi, hz0, hz1, hz2⟩ := info_parts infoC
  have hgl : g1 < u.heap.size := (Array.getElem?_eq_some_iff.1 hg1).1
  subst hsl
  by_cases h0 : cs = []
  · subst h0
    obtain rfl : news = [] := List.eq_nil_of_length_eq_zero (by simpa using hn)
    have hr0 : u.ownsRow B 56 9 (.slice (some ⟨g1, 0, none⟩) 0 0) 0 [] := ⟨rfl, Or.inr ⟨g1, 0, #[], rfl, by omega, hg1, Nat.le_refl _, Nat.zero_le _, rfl, rfl⟩⟩
    cases ao with
    | none =>
      refine ⟨.slice (some ⟨g1, 0, none⟩) 0 0, u, ?_, hr0, Below.refl _ _, g1, 0, rfl⟩
      simp [Builtin.append_, run_underlying Try.underlying27, sizeOf, typeInfo, hi, Builtin.lenOf, Builtin.firstCells, storeCells]
    | some a =>
      have hq := run_append_room_cells (P := Try.prog) u 27 27 56 i0 Try.underlying27 hi g1 0 0 0 a 0 cap [] (by simp) (by simp) (by simp) (Nat.le_refl _) (by simp) (by simp)
      exact ⟨_, _, hq, hr0, Below.refl _ _, g1, 0, rfl⟩
  · have hpos : 0 < cs.length := List.length_pos_iff.2 h0
    obtain ⟨b, off, rfl, hcc⟩ := hc h0
    obtain ⟨v', u', hr, hown, hgr⟩ := run_append_arg_grows (P := Try.prog) u 27 27 56 i0 _ 9 128 Try.underlying27 hi hz0 hz1 hz2 rfl (by decide) ⟨g1, 0, none⟩ 0 0 [] rfl (by simp) ⟨b, off, none⟩ cs.length cap news hn (fun j z hj => by
      rw [Addr.add_lit]; exact hcc j z hj) (by omega) (by unfold maxLen; omega) (by omega)
    have hown2 : u'.ownsRow u.heap.size 56 9 v' cs.length news := ⟨hn, by simpa using hown.2⟩
    refine ⟨v', u', hr, ⟨hown2.1, ?_⟩, ⟨hgr.os, hgr.tape, hgr.output, hgr.size, fun k hk => hgr.block k hk (by simp)⟩, ?_⟩
    · rcases hown2.2 with h | ⟨g, c, cur, e, hg, hh⟩
      · exact Or.inl h
      · exact Or.inr ⟨g, c, cur, e, by omega, hh⟩
    · rcases hown2.2 with ⟨_, h⟩ | ⟨g, c, cur, e, hg, hh⟩
      · omega
      · exact ⟨g, c, e⟩
end Go.Proofs.Ytmhmlkdoaojimap

/- An append whose answer is known, as a law for the walk. Of no program. -/
namespace Go.Proofs.Ytmhmlkdoaojimap
open Go

theorem wpList_append_run {P : Program} {w : World} {ops : Array Oper} {rest : List Oper} {o : Oper} {a : Act} {Q : Exit → Act → World → Prop} (hgd : o.guard = none) (s x : Operand) (t : TypeId)
    (ho : o.op = .call { callee := .builtin .append, args := #[s, x], argTypes := #[t, t] }) (v xv v' : Value) (w' : World) (hs : a.eval s = v) (hx : a.eval x = xv)
    (hrun : (Builtin.append_ #[t, t] o.type #[v, xv]).run P w = .ok v' w') (h : wpList P ops Q rest (a.put o.dst v') w') : wpList P ops Q (o :: rest) a w := by
  refine wpList_plain hgd fun K hK => ?_
  unfold Oper.wp
  simp [execOp, ho, resolve, invoke, builtin, hs, hx, hrun, Result.andThen]
  exact hK _ _ h
end Go.Proofs.Ytmhmlkdoaojimap

/- spec.l34Strings: a row of strings again. -/
namespace Go.Proofs.Ytmhmlkdoaojimap
open Go.RowKit

/-- all strings behind a new row with no room -/
theorem app_strs (xs : List ByteArray) (u : World) (sl : Value) (g1 : Nat) (B : Nat) (h : SsIn u xs sl) (hl : xs.length ≤ 1048576) (hg1 : u.heap[g1]? = some (.cells #[] 9 (0, 0))) (hB : B ≤ g1) :
    ∃ v' u', (Builtin.append_ #[23, 23] 23 #[.slice (some ⟨g1, 0, none⟩) 0 0, sl]).run Try.prog u = .ok v' u' ∧ u'.ownsRow B 9 1 v' xs.length (xs.map Value.string) ∧ Below u.heap.size u u' ∧ ∃ g c, v' = .slice (some ⟨g, 0, none⟩) xs.length c := by
  obtain ⟨i0, hi, hz0, hz1, hz2⟩ := info_parts infoSt
  have hgl : g1 < u.heap.size := (Array.getElem?_eq_some_iff.1 hg1).1
  obtain ⟨ao, cap, rfl, h1, h2, h3⟩ := h
  by_cases h0 : xs = []
  · subst h0
    have hr0 : u.ownsRow B 9 1 (.slice (some ⟨g1, 0, none⟩) 0 0) 0 [] := ⟨rfl, Or.inr ⟨g1, 0, #[], rfl, by omega, hg1, Nat.le_refl _, Nat.zero_le _, rfl, rfl⟩⟩
    cases ao with
    | none =>
      refine ⟨.slice (some ⟨g1, 0, none⟩) 0 0, u, ?_, hr0, Below.refl _ _, g1, 0, rfl⟩
      simp [Builtin.append_, run_underlying Try.underlying23, sizeOf, typeInfo, hi, Builtin.lenOf, Builtin.firstCells, storeCells]
    | some a =>
      have hq := run_append_room_cells (P := Try.prog) u 23 23 9 i0 Try.underlying23 hi g1 0 0 0 a 0 cap [] (by simp) (by simp) (by simp) (Nat.le_refl _) (by simp) (by simp)
      exact ⟨_, _, hq, hr0, Below.refl _ _, g1, 0, rfl⟩
  · have hpos : 0 < xs.length := List.length_pos_iff.2 h0
    obtain ⟨b, off, rfl, hc⟩ := h3 h0
    obtain ⟨v', u', hr, hown, hgr⟩ := run_append_arg_grows (P := Try.prog) u 23 23 9 i0 (.string ⟨#[]⟩) 1 16 Try.underlying23 hi hz0 hz1 hz2 rfl (by decide) ⟨g1, 0, none⟩ 0 0 [] rfl (by simp) ⟨b, off, none⟩ xs.length cap (xs.map Value.string) (by simp) (fun j z hj => by
      have hj2 : j < xs.length := by
        have := (List.getElem?_eq_some_iff.1 hj).1
        simpa using this
      simp only [List.getElem?_map, List.getElem?_eq_getElem hj2, Option.map_some, Option.some.injEq] at hj
      subst hj
      rw [Addr.add_lit]; exact (hc j hj2).1) (by omega) (by unfold maxLen; omega) (by omega)
    have hown2 : u'.ownsRow u.heap.size 9 1 v' xs.length (xs.map Value.string) := ⟨by simp, by simpa using hown.2⟩
    refine ⟨v', u', hr, ⟨hown2.1, ?_⟩, ⟨hgr.os, hgr.tape, hgr.output, hgr.size, fun k hk => hgr.block k hk (by simp)⟩, ?_⟩
    · rcases hown2.2 with h | ⟨g, c, cur, e, hg, hh⟩
      · exact Or.inl h
      · exact Or.inr ⟨g, c, cur, e, by omega, hh⟩
    · rcases hown2.2 with ⟨_, h⟩ | ⟨g, c, cur, e, hg, hh⟩
      · omega
      · exact ⟨g, c, e⟩

set_option maxRecDepth 20000 in
theorem l34_strs (xs : List ByteArray) (w : World) (sl : Value) (h : SsIn w xs sl) (hl : xs.length ≤ 1048576) :
    Calls Try.prog 29 #[sl] w fun e w' => ∃ v', e = .returned v' ∧ w'.ownsRow w.heap.size 9 1 v' xs.length (xs.map Value.string) ∧ Below w.heap.size w w' ∧ ∃ g c, v' = .slice (some ⟨g, 0, none⟩) xs.length c := by
  have bW : Below w.heap.size w (w.alloc (.cells #[] 9)) := (Below.refl _ _).alloc (Nat.le_refl _) _
  obtain ⟨v', u', hr, ho, hb, hs⟩ := app_strs xs (w.alloc (.cells #[] 9)) sl w.heap.size w.heap.size (h.keep bW) hl (heap_alloc_new w _) (Nat.le_refl _)
  obtain ⟨ao, cap, rfl, -⟩ := h
  have HO : Hid _ := ho
  have HB : Hid (Below w.heap.size w u') := bW.trans (hb.mono bW.size)
  have HS : Hid _ := hs
  clear ho hb hs hl bW
  go_enter Try.func29, Try.ntmps29
  obtain ⟨g2, c2, rfl⟩ := HS.out
  go_wp2_with (at_builtin; go_loud (refine wpList_append_run rfl _ _ 23 rfl _ _ _ _ rfl rfl hr ?_))
  go_wp2
  go_ret
  exact ⟨_, rfl, HO.out, HB.out, HS.out⟩
end Go.Proofs.Ytmhmlkdoaojimap
