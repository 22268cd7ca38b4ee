/- Four texts in one. -/
import Derived.Test.YtmhmlkdoaojimapGreatDoorMrg18
import Derived.Test.YtmhmlkdoaojimapGreatDoorMrg19
import Derived.Test.YtmhmlkdoaojimapGreatDoorMrg16
import Derived.Maps.AppendAt
import Derived.Test.YtmhmlkdoaojimapGreatDoorMrg14
import Derived.Test.YtmhmlkdoaojimapGreatDoorMrg2
import Derived.Test.YtmhmlkdoaojimapGreatDoorMrg11
import Derived.Deep.DeepCutAuto
import Derived.Test.YtmhmlkdoaojimapGreatDoorRows
import Derived.Below
import Derived.ProofKit
/- impl.shelvesOf. -/
namespace Go.Proofs.YtmhmlkdoaojimapGreatDoor
open Go.RowKit

theorem below_hk {w w' : World} (hb : Below w.heap.size w w') {g : Nat} {x : Obj} (h : w.heap[g]? = some x) : w'.heap[g]? = some x := (hb.block g (Array.getElem?_eq_some_iff.1 h).1).trans h
theorem row_keepBB {w w' : World} {B e size n : Nat} {v : Value} {xs : List Value} (h : w.ownsRow B e size v n xs) (hb : ∀ b, v.ownBlock = some b → w'.heap[b]? = w.heap[b]?) : w'.ownsRow B e size v n xs := by
  rcases h.2 with ⟨rfl, hl⟩ | ⟨g, cap, cur, rfl, h1, hh, h2⟩
  · exact ⟨h.1, Or.inl ⟨rfl, hl⟩⟩
  · exact ⟨h.1, Or.inr ⟨g, cap, cur, rfl, h1, (hb g rfl).trans hh, h2⟩⟩
theorem ofPred_le (q : ByteArray) (cs : List Cla) (j : Nat) : (ofPred q (cs.take j)).length ≤ cs.length := by
  have h1 : (ofPred q (cs.take j)).length ≤ (cs.take j).length := List.length_filter_le _ _
  rw [List.length_take] at h1
  omega
theorem vmap_get (w : World) (m : Nat) (ms : List (ByteArray × Value)) (h : VMapAt w m ms) (s : ByteArray) :
    (Instr.lookup 70 (.map (some m)) (.string s) false).run Tryz.prog w = .ok ((vget s ms).getD (.slice none 0 0)) w := by
  obtain ⟨es, clock, h1, h2, _⟩ := h
  obtain ⟨q1, q2⟩ := vnow s ms es.toList 0 h2
  have hc := vchk 9999 es.isEmpty w s
  cases hg : vget s ms with
  | some n =>
    obtain ⟨j, hj, _⟩ := q2 n hg
    simp [Instr.lookup, run_underlying Tryz.underlying70, run_underlying Tryz.underlying9, MapKept.run_getObj_map h1, hc, Instr.findKey, hj]
  | none =>
    have hj := q1 hg
    simp [Instr.lookup, run_underlying Tryz.underlying70, run_underlying Tryz.underlying9, MapKept.run_getObj_map h1, hc, Instr.findKey, hj]

theorem sh_look {w0 w : World} {B m : Nat} {ks : List Cla} {D : Nat → Prop} (h : ShAt 43 41 w0 w B m ks D) (q : ByteArray) :
    ∃ (ms : List (ByteArray × Value)) (ao : Option Addr) (l c : Nat) (news : List Value) (F : List Nat), VMapAt w m ms ∧ (ms.map (·.1)).Nodup ∧ (ms.map fun x => x.2.ownBlock).Nodup ∧ (∀ q, vget q ms = none → ofPred q ks = []) ∧ (∀ x ∈ ms, ShRow 43 41 w0 w B x.1 ks D x.2 ∧ x.2.ownBlock ≠ none ∧ ofPred x.1 ks ≠ []) ∧
      Value.slice ao l c = (vget q ms).getD (.slice none 0 0) ∧ (Instr.lookup 70 (.map (some m)) (.string q) false).run Tryz.prog w = .ok (.slice ao l c) w ∧ w.ownsRow B 43 9 (.slice ao l c) (ofPred q ks).length news ∧ OwnCs 41 w0 (ofPred q ks) news F ∧ F.Nodup ∧ (∀ f ∈ F, D f) := by
  obtain ⟨ms, h1, h2, h3, h4, h5⟩ := h
  have hl := vmap_get w m ms h1 q
  obtain ⟨news, F, r1, r2, r3, r4⟩ := ShAt.list h4 h5 q
  obtain ⟨ao, l, c, e⟩ := owns_shape r1
  rw [e] at hl r1
  exact ⟨ms, ao, l, c, news, F, h1, h2, h3, h4, h5, e.symm, hl, r1, r2, r3, r4⟩

set_option maxHeartbeats 8000000 in
set_option maxRecDepth 20000 in
theorem shelves_of (ks : List Cla) (w : World) (sl : Value) (F : List Nat) (hlen : ks.length ≤ 1100000) (hwt : ∀ c ∈ ks, c.h.wt ≤ 1048576) (h : OwnClS 43 41 w ks sl F) (hnd : F.Nodup) (htab : Lib.TabIs Tryz.prog w "internal/strconv.uint64pow10" .u64 Lib.pow10Tab) :
    Calls Tryz.prog 41 #[sl] w fun e w' => ∃ m, e = .returned (.map (some m)) ∧ w.heap.size ≤ m ∧ ShAt 43 41 w w' w.heap.size m ks (fun f => f ∈ F) ∧ Below w.heap.size w w' := by
  have hmm := @run_makeMap Tryz.prog
  obtain ⟨i0, hi, hz0, hz1, hz2⟩ := info_parts infoC
  have hlt := h.lt
  obtain ⟨g, cap, G, hsl, HSRC⟩ : ∃ (g cap : Nat) (G : Nat → List Nat), (ks ≠ [] → sl = .slice (some ⟨g, 0, none⟩) ks.length cap) ∧ (∀ j (hj : j < ks.length), ∃ cur cc, w.heap[g]? = some (.cells cur 43 (0, 0)) ∧ g < w.heap.size ∧ (∀ i, i < 9 → cur[j * 9 + i]? = cc[i]?) ∧ OwnC 41 w ks[j] cc (G j) ∧ (G j).Nodup ∧ (∀ f ∈ G j, f ∈ F) ∧ (∀ i, i < j → ∀ f ∈ G i, f ∉ G j)) := by
    rcases h with ⟨rfl, rfl, rfl⟩ | ⟨g, cap, cs, F', rfl, h5, rfl, h6⟩
    · exact ⟨0, 0, fun _ => [], fun h => absurd rfl h, fun j hj => by simp at hj⟩
    · obtain ⟨G, g1, g2, g3⟩ := OwnCs.parts h6 (List.nodup_cons.1 hnd).2
      refine ⟨g, cap, G, fun _ => rfl, fun j hj => ?_⟩
      obtain ⟨hl, h5⟩ := h5
      rcases h5 with ⟨h5, _⟩ | ⟨g', cap', cur, e', _, hblk, hc1, hc2, hc3, hc4⟩
      · cases h5
      · simp only [Value.slice.injEq, Option.some.injEq, Addr.mk.injEq, and_true, true_and] at e'
        obtain ⟨rfl, rfl⟩ := e'
        refine ⟨cur, _, hblk, (Array.getElem?_eq_some_iff.1 hblk).1, fun i hi => ?_, g1 j hj, (g2 j hj).2, fun f hf => List.mem_cons_of_mem g ((g2 j hj).1 f hf), fun i hi => g3 i j hi hj⟩
        have hl6 := OwnCs.len _ _ _ h6
        rw [List.getElem?_take, if_pos hi, List.getElem?_drop, ← hc4, List.getElem?_take, if_pos (by omega)]
        simp
  obtain ⟨ao, cp, rfl⟩ := ownClS_shape h
  have HSR : Hid _ := HSRC
  have HLT : Hid (∀ f ∈ F, f < w.heap.size) := hlt
  have HTB : Hid (∀ u, Below w.heap.size w u → Lib.TabIs Tryz.prog u "internal/strconv.uint64pow10" .u64 Lib.pow10Tab) := fun u hb => pow_keep htab hb
  have HWT : Hid (∀ c ∈ ks, c.h.wt ≤ 1048576) := hwt
  obtain ⟨m, hm⟩ : ∃ m, m = w.heap.size := ⟨_, rfl⟩
  have HM : Hid (m = w.heap.size) := hm
  clear h hnd hlt HSRC htab hwt
  go_enter Tryz.func41, Tryz.ntmps41
  go_wp2
  clear hmm
  rw [← hm]
  clear hm
  go_loopw [10] (fun vi wr => ∃ (j : Nat), j ≤ ks.length ∧ vi = .int .i64 (j : Int) ∧ Hid (Below w.heap.size w wr ∧ ShAt 43 41 w wr w.heap.size m (ks.take j) (fun f => ∃ i, i < j ∧ f ∈ G i))) (fun i _ => ks.length - (intOf i).toNat)
  case atStart =>
    refine ⟨0, by omega, rfl, (Below.refl _ _).alloc (Nat.le_refl _) _, [], ?_, by simp, by simp, fun q _ => rfl, by simp⟩
    exact ⟨#[], 0, by rw [HM.out]; exact heap_alloc_new _ _, rfl, by simp [BornOk]⟩
  case round =>
    obtain ⟨j, hj, rfl, HB⟩ := hrel
    by_cases hlt : j < ks.length
    · obtain ⟨scur, cc, s1, s2, s5, s6, s7, s8, s9⟩ := HSR.out j hlt
      have hsl' := hsl (by intro e; subst e; simp at hlt)
      obtain ⟨rfl, rfl⟩ : ao = some ⟨g, 0, none⟩ ∧ cp = cap := by simpa using hsl'
      obtain ⟨k1, t1, n1, a1, l1, m1, k2, t2, n2, a2, l2, m2, F1, F2, rfl, hFF, hf, o1, o2⟩ := s6
      have hgb := (HB.out.1.block g s2).trans s1
      have x0 := cell_of_row (i := j * 9) hgb ((s5 0 (by omega)).trans rfl)
      have x1 := cell_of_row (i := j * 9 + 1) hgb ((s5 1 (by omega)).trans rfl)
      have x2 := cell_of_row (i := j * 9 + 2) hgb ((s5 2 (by omega)).trans rfl)
      have x3 := cell_of_row (i := j * 9 + 3) hgb ((s5 3 (by omega)).trans rfl)
      have x4 := cell_of_row (i := j * 9 + 4) hgb ((s5 4 (by omega)).trans rfl)
      have x5 := cell_of_row (i := j * 9 + 5) hgb ((s5 5 (by omega)).trans rfl)
      have x6 := cell_of_row (i := j * 9 + 6) hgb ((s5 6 (by omega)).trans rfl)
      have x7 := cell_of_row (i := j * 9 + 7) hgb ((s5 7 (by omega)).trans rfl)
      have x8 := cell_of_row (i := j * 9 + 8) hgb ((s5 8 (by omega)).trans rfl)
      obtain ⟨U, hU⟩ : ∃ U, U = wr.alloc (.cells #[.int .i64 k1, .string t1, .int .i64 n1, .slice a1 l1 m1, .int .i64 k2, .string t2, .int .i64 n2, .slice a2 l2 m2, .string ks[j].f] 43) := ⟨_, rfl⟩
      have bU : Below wr.heap.size wr U := by rw [hU]; exact (Below.refl _ _).alloc (Nat.le_refl _) _
      have hsU : U.heap.size = wr.heap.size + 1 := by rw [hU]; simp
      have hkU : U.heap[wr.heap.size]? = some (.cells #[.int .i64 k1, .string t1, .int .i64 n1, .slice a1 l1 m1, .int .i64 k2, .string t2, .int .i64 n2, .slice a2 l2 m2, .string ks[j].f] 43 (0, 0)) := by rw [hU]; exact heap_alloc_new _ _
      have bwU : Below w.heap.size w U := HB.out.1.trans (bU.mono HB.out.1.size)
      have HC0 := i_pred ks[j].h U _ (TmIn.keep bwU _ _ (Own.toIn _ _ _ o1)) (HWT.out _ (List.getElem_mem hlt)) (HTB.out U bwU)
      have HTK : Hid (ks.take (j + 1) = ks.take j ++ [ks[j]]) := List.take_succ_eq_append_getElem hlt
      have HOC : Hid (OwnC 41 w ks[j] [.int .i64 k1, .string t1, .int .i64 n1, .slice a1 l1 m1, .int .i64 k2, .string t2, .int .i64 n2, .slice a2 l2 m2, .string ks[j].f] (G j) ∧ (G j).Nodup ∧ (∀ i, i < j → ∀ f ∈ G i, f ∉ G j)) := ⟨⟨k1, t1, n1, a1, l1, m1, k2, t2, n2, a2, l2, m2, F1, F2, rfl, hFF, hf, o1, o2⟩, s7, s9⟩
      have HU : Hid (U = _ ∧ Below w.heap.size w U ∧ U.heap[wr.heap.size]? = _ ∧ U.heap.size = wr.heap.size + 1 ∧ ShAt 43 41 w U w.heap.size m (ks.take j) (fun f => ∃ i, i < j ∧ f ∈ G i)) := ⟨hU, bwU, hkU, hsU, HB.out.2.below bU⟩
      rw [hU] at HC0
      have HC : Hid _ := HC0
      have HLN : Hid (ks.length ≤ 1100000) := hlen
      clear s1 s5 hgb hf o1 o2 hFF s7 s8 s9 HC0 bU bwU hsU hkU hU HB HSR
      generalize ks[j] = kj at *
      go_wp2_with (first
        | (go_at_call 53; refine (Calls.mono HC.out ?_); rintro e w1 ⟨rfl, hb⟩; rw [← HU.out.1] at hb; have HB1 : Hid (Below U.heap.size U w1) := hb; have hk1 := below_hk hb HU.out.2.2.1; have HK1 : Hid (w1.heap[wr.heap.size]? = _) := hk1; obtain ⟨⟨y0, y1, y2, y3, y4, y5, y6, y7, y8⟩, _⟩ := blk9 hk1; clear hk1; obtain ⟨ms, a9, l9, c9, news, F9, v1, v2, v3, v4, v5, v6, HLK, v8, v9, v10, v11⟩ := sh_look (HU.out.2.2.2.2.below hb) (predB kj.h); have HV : Hid (VMapAt w1 m ms ∧ (ms.map (·.1)).Nodup ∧ (ms.map fun x => x.2.ownBlock).Nodup ∧ (∀ q, vget q ms = none → ofPred q (ks.take j) = []) ∧ (∀ x ∈ ms, ShRow 43 41 w w1 w.heap.size x.1 (ks.take j) (fun f => ∃ i, i < j ∧ f ∈ G i) x.2 ∧ x.2.ownBlock ≠ none ∧ ofPred x.1 (ks.take j) ≠ []) ∧ Value.slice a9 l9 c9 = (vget (predB kj.h) ms).getD (.slice none 0 0) ∧ w1.ownsRow w.heap.size 43 9 (.slice a9 l9 c9) (ofPred (predB kj.h) (ks.take j)).length news ∧ OwnCs 41 w (ofPred (predB kj.h) (ks.take j)) news F9 ∧ F9.Nodup ∧ (∀ f ∈ F9, ∃ i, i < j ∧ f ∈ G i)) := ⟨v1, v2, v3, v4, v5, v6, v8, v9, v10, v11⟩; clear v1 v2 v3 v4 v5 v6 v8 v9 v10 v11 hb)
        | (at_builtin; go_loud (refine wpList_append_own_at _ rfl _ _ 33 rfl w.heap.size 43 i0 (.agg #[.int .i64 0, .string ⟨#[]⟩, .int .i64 0, .slice none 0 0, .int .i64 0, .string ⟨#[]⟩, .int .i64 0, .slice none 0 0, .string ⟨#[]⟩]) 9 128 Tryz.underlying33 hi hz0 hz1 hz2 rfl (by decide) _ _ _ rfl (HV.out.2.2.2.2.2.2.1.alloc _) ⟨w1.heap.size, 0, none⟩ 1 1 [.int .i64 k1, .string t1, .int .i64 n1, .slice a1 l1 m1, .int .i64 k2, .string t2, .int .i64 n2, .slice a2 l2 m2, .string kj.f] rfl rfl ?c1 ?c2 ?c3 ?c4 ?c5 ?_)))
      case c1 =>
        intro j z hj
        match j, hj with
        | 0, hj => simp at hj; subst hj; simp [Addr.add]
        | 1, hj => simp at hj; subst hj; simp [Addr.add]
        | 2, hj => simp at hj; subst hj; simp [Addr.add]
        | 3, hj => simp at hj; subst hj; simp [Addr.add]
        | 4, hj => simp at hj; subst hj; simp [Addr.add]
        | 5, hj => simp at hj; subst hj; simp [Addr.add]
        | 6, hj => simp at hj; subst hj; simp [Addr.add]
        | 7, hj => simp at hj; subst hj; simp [Addr.add]
        | 8, hj => simp at hj; subst hj; simp [Addr.add]
      case c2 => intro z hz; simp at hz; rcases hz with rfl | rfl | rfl | rfl | rfl | rfl | rfl | rfl | rfl <;> rfl
      case c3 => have := ofPred_le (predB kj.h) ks j; unfold maxLen; omega
      case c4 => have := ofPred_le (predB kj.h) ks j; omega
      case c5 => have := HU.out.2.1.size; have := HB1.out.size; simp; omega
      intro v' w2 hown' hgrow hnil hat
      obtain ⟨W1, hW1⟩ : ∃ W1, W1 = w1.alloc (.cells #[.int .i64 k1, .string t1, .int .i64 n1, .slice a1 l1 m1, .int .i64 k2, .string t2, .int .i64 n2, .slice a2 l2 m2, .string kj.f] 43) := ⟨_, rfl⟩
      rw [← hW1] at hgrow
      rw [show w1.heap.size + 1 = W1.heap.size by rw [hW1]; simp] at hat
      have bW1 : Below w1.heap.size w1 W1 := by rw [hW1]; exact (Below.refl _ _).alloc (Nat.le_refl _) _
      obtain ⟨v1, v2, v3, v4, v5, v6, v8, v9, v10, v11⟩ := HV.out
      have bw1 : Below w.heap.size w w1 := HU.out.2.1.trans (HB1.out.mono HU.out.2.1.size)
      have bwW : Below w.heap.size w W1 := bw1.trans (bW1.mono bw1.size)
      have hvm : VMapAt w2 m ms := by
        obtain ⟨es, cl, q1, q2⟩ := v1
        have hml := (Array.getElem?_eq_some_iff.1 q1).1
        refine ⟨es, cl, (hgrow.block m (Nat.lt_of_lt_of_le hml bW1.size) ?_).trans ((bW1.block m hml).trans q1), q2⟩
        intro e
        rcases v8.2 with ⟨h, _⟩ | ⟨g9, cap9, cur9, e9, _, hh, _⟩
        · rw [h] at e; cases e
        · rw [e9] at e
          obtain rfl : m = g9 := by simpa [Value.ownBlock] using e
          rw [q1] at hh; cases hh
      have hmw : ∃ es cl, w2.heap[m]? = some (.map es cl) := by obtain ⟨es, cl, q1, _⟩ := hvm; exact ⟨es, cl, q1⟩
      obtain ⟨o, HPU, MV⟩ := vmap_put w2 m ms hvm (predB kj.h) v'
      have hnn : v' ≠ .slice none 0 0 := fun e => by first | exact hnil e | (have := (hnil.1 e).2; omega) | simp_all
      have hb2 : Below w.heap.size w w2 := ⟨hgrow.os.trans bwW.os, hgrow.tape.trans bwW.tape, hgrow.output.trans bwW.output, Nat.le_trans bwW.size hgrow.size, fun k hk => (hgrow.block k (Nat.lt_of_lt_of_le hk bwW.size) (fun e => by have := (v8.lt k e.symm).1; omega)).trans (bwW.block k hk)⟩
      have hb3 : Below w.heap.size w (putB w2 m o) := ⟨hb2.os, hb2.tape, hb2.output, by simpa [putB] using hb2.size, fun k hk => (putB_other (by have := HM.out; omega)).trans (hb2.block k hk)⟩
      have HFIN : Hid (Below w.heap.size w (putB w2 m o) ∧ ShAt 43 41 w (putB w2 m o) w.heap.size m (ks.take (j + 1)) (fun f => ∃ i, i < j + 1 ∧ f ∈ G i)) := by
        refine ⟨hb3, ?_⟩
        rw [HTK.out]
        obtain ⟨c1, c2, c3⟩ := HOC.out
        refine ShAt.put (w := W1) (v := .slice a9 l9 c9) v2 v3 v4 (fun x hx => ?_) v6 c1 c2 (fun f hf => ⟨⟨j, by omega, hf⟩, fun h => ?_⟩) (fun f h => ?_) v9 v10 v11 hown' hgrow hnn hat hmw MV
        · obtain ⟨⟨news', F', r1, r2⟩, h6⟩ := v5 x hx
          exact ⟨⟨news', F', row_keepBB r1 (fun b e => bW1.block b (r1.lt b e).2), r2⟩, h6⟩
        · obtain ⟨i, hi, h⟩ := h
          exact c3 i hi f h hf
        · obtain ⟨i, hi, h⟩ := h
          exact ⟨i, by omega, h⟩
      clear v1 v2 v3 v4 v5 v6 v8 v9 v10 v11 hown' hgrow hnil hat hW1 bW1 bw1 bwW hvm hmw MV hnn hb2 hb3
      go_wp2
      go_roundw
      case rel => exact ⟨j + 1, by omega, by go_num, HFIN.out⟩
      case measure => simp [intOf]; omega
    · obtain rfl : j = ks.length := by omega
      go_wp2
      go_ret
      obtain ⟨b, ms, h1, h2, h3, h4, h5⟩ := HB.out
      rw [List.take_of_length_le (Nat.le_refl _)] at h4 h5
      refine ⟨m, rfl, by have := HM.out; omega, ⟨ms, h1, h2, h3, h4, fun x hx => ?_⟩, b⟩
      obtain ⟨⟨news, F9, r1, r2, r3, r4⟩, h6⟩ := h5 x hx
      refine ⟨⟨news, F9, r1, r2, r3, fun f hf => ?_⟩, h6⟩
      obtain ⟨i, hi, hf⟩ := r4 f hf
      obtain ⟨_, _, _, _, _, _, _, q8, _⟩ := HSR.out i hi
      exact q8 f hf
end Go.Proofs.YtmhmlkdoaojimapGreatDoor

/- Which clauses may stand in a Db. Plain. -/
namespace Go.Proofs.YtmhmlkdoaojimapGreatDoor
open Go.RowKit

def okPair (c : Cla) : Bool := c.h.ok && c.b.ok
def okCl (c : Cla) : Bool := okPair c && mayB (predB c.h)
/-- those of one predicate may go -/
def okShelf (ks : List Cla) (q : ByteArray) : Bool := mayB q && (ofPred q ks).all okPair
theorem okCl_shelf (ks : List Cla) : (∀ c ∈ ks, okCl c = true) ↔ ∀ q, ofPred q ks ≠ [] → okShelf ks q = true := by
  constructor
  · intro h q hq
    obtain ⟨c, hc⟩ := List.exists_mem_of_ne_nil _ hq
    obtain ⟨hc1, hc2⟩ := List.mem_filter.1 hc
    have e : predB c.h = q := of_decide_eq_true hc2
    have h1 := h c hc1
    unfold okCl at h1
    rw [Bool.and_eq_true] at h1
    unfold okShelf
    rw [Bool.and_eq_true, List.all_eq_true]
    refine ⟨e ▸ h1.2, fun x hx => ?_⟩
    have h2 := h x (List.mem_filter.1 hx).1
    unfold okCl at h2
    rw [Bool.and_eq_true] at h2
    exact h2.1
  · intro h c hc
    have hm : c ∈ ofPred (predB c.h) ks := List.mem_filter.2 ⟨hc, decide_eq_true rfl⟩
    have h1 := h (predB c.h) (List.ne_nil_of_mem hm)
    unfold okShelf at h1
    rw [Bool.and_eq_true, List.all_eq_true] at h1
    unfold okCl
    rw [Bool.and_eq_true]
    exact ⟨h1.2 c hm, h1.1⟩
end Go.Proofs.YtmhmlkdoaojimapGreatDoor

/- impl.allRight. -/
namespace Go.Proofs.YtmhmlkdoaojimapGreatDoor
open Go.RowKit

set_option maxHeartbeats 8000000 in
set_option maxRecDepth 20000 in
theorem i_allRight (ks : List Cla) (w : World) (v : Value) (h : ClsIn w ks v) :
    Calls Tryz.prog 43 #[v] w fun e w' => e = .returned (.bool (ks.all okPair)) ∧ Below w.heap.size w w' := by
  obtain ⟨ao, cap, rfl, hcap, hmax, h⟩ := h
  have hlen : ks.length ≤ maxLen := by omega
  unfold maxLen at hlen
  clear hcap hmax
  obtain ⟨kb, hkb⟩ : ∃ kb, ks.all okPair = kb := ⟨_, rfl⟩
  rw [hkb]
  have HKB : Hid (kb = true ↔ ∀ c ∈ ks, okPair c = true) := by show _ ↔ _; rw [← hkb, List.all_eq_true]
  clear hkb
  go_enter Tryz.func43, Tryz.ntmps43
  go_wp2
  go_loopw [7] (fun v7 wr => ∃ (j : Nat), j ≤ ks.length ∧ v7 = .int .i64 (j : Int) ∧ Hid (Below w.heap.size w wr ∧ ∀ c ∈ ks.take j, okPair c = true)) (fun i _ => ks.length - (intOf i).toNat)
  case atStart => exact ⟨0, by omega, rfl, Below.refl _ _, by simp⟩
  case round =>
    obtain ⟨j, hj, rfl, HB⟩ := hrel
    by_cases hlt : j < ks.length
    · obtain ⟨b, off, rfl, hin⟩ := h (by intro e; subst e; simp at hlt)
      obtain ⟨k1, s1, n1, a1, l1, m1, k2, s2, n2, a2, l2, m2, h0, h1, h2, h3, h4, h5, h6, h7, h8, hf, i1, i2⟩ := (hin j hlt).keep HB.out.1
      have HTK : Hid (ks.take (j + 1) = ks.take j ++ [ks[j]]) := List.take_succ_eq_append_getElem hlt
      have HM : Hid (ks[j] ∈ ks) := List.getElem_mem hlt
      obtain ⟨U, hU⟩ : ∃ U, U = wr.alloc (.cells #[.int .i64 k1, .string s1, .int .i64 n1, .slice a1 l1 m1, .int .i64 k2, .string s2, .int .i64 n2, .slice a2 l2 m2, .string ks[j].f] 43) := ⟨_, rfl⟩
      have bU : Below wr.heap.size wr U := by rw [hU]; exact (Below.refl _ _).alloc (Nat.le_refl _) _
      have kU : U.heap[wr.heap.size]? = some (.cells #[.int .i64 k1, .string s1, .int .i64 n1, .slice a1 l1 m1, .int .i64 k2, .string s2, .int .i64 n2, .slice a2 l2 m2, .string ks[j].f] 43 (0, 0)) := by rw [hU]; exact heap_alloc_new _ _
      have HK : Hid (∀ u, Below U.heap.size U u → u.heap[wr.heap.size]? = some (.cells #[.int .i64 k1, .string s1, .int .i64 n1, .slice a1 l1 m1, .int .i64 k2, .string s2, .int .i64 n2, .slice a2 l2 m2, .string ks[j].f] 43 (0, 0))) := fun u hb => (hb.block _ (Array.getElem?_eq_some_iff.1 kU).1).trans kU
      have HOK : Hid (∀ u t v b, Below U.heap.size U u → TmIn U t v ∧ t.ok = b → Calls Tryz.prog 55 #[v] u fun e w' => e = .returned (.bool b) ∧ Below u.heap.size u w') := fun u t v b hb h => by rw [← h.2]; exact implOk t u _ (TmIn.keep hb _ _ h.1)
      have HP : Hid (okPair ks[j] = (ks[j].h.ok && ks[j].b.ok)) := rfl
      obtain ⟨p, hp⟩ : ∃ p, ks[j].h.ok = p := ⟨_, rfl⟩
      obtain ⟨q, hq⟩ : ∃ q, ks[j].b.ok = q := ⟨_, rfl⟩
      have HI1 : Hid (TmIn U ks[j].h (.agg #[.int .i64 k1, .string s1, .int .i64 n1, .slice a1 l1 m1]) ∧ ks[j].h.ok = p) := ⟨TmIn.keep bU _ _ i1, hp⟩
      have HI2 : Hid (TmIn U ks[j].b (.agg #[.int .i64 k2, .string s2, .int .i64 n2, .slice a2 l2 m2]) ∧ ks[j].b.ok = q) := ⟨TmIn.keep bU _ _ i2, hq⟩
      rw [hp, hq] at HP
      have HBU : Hid (Below w.heap.size w U) := HB.out.1.trans (bU.mono HB.out.1.size)
      have HB0 : Hid (Below U.heap.size U U) := Below.refl _ _
      clear hin i1 i2 h hf hp hq bU kU
      generalize ks[j] = kj at *
      cases p <;> cases q
      all_goals
        go_upto_region 4 with fail
        rw [← hU]
        clear hU h0 h1 h2 h3 h4 h5 h6 h7 h8
        obtain ⟨⟨x0, x1, x2, x3, x4, x5, x6, x7, x8⟩, _⟩ := blk9 (HK.out U HB0.out)
        go_wp2_with (go_at_call 55; first
          | (refine (Calls.mono (HOK.out _ _ _ _ HB0.out HI1.out) ?_); rintro e w1 ⟨rfl, hb⟩; replace HB0 : Hid (Below U.heap.size U w1) := HB0.out.trans (hb.mono HB0.out.size); clear hb; obtain ⟨⟨x0, x1, x2, x3, x4, x5, x6, x7, x8⟩, _⟩ := blk9 (HK.out w1 HB0.out))
          | (refine (Calls.mono (HOK.out _ _ _ _ HB0.out HI2.out) ?_); rintro e w1 ⟨rfl, hb⟩; replace HB0 : Hid (Below U.heap.size U w1) := HB0.out.trans (hb.mono HB0.out.size); clear hb))
        first
          | (go_ret
             have hk : kb = false := by
               cases hk : kb with
               | false => rfl
               | true => exact absurd ((HKB.out.1 hk kj HM.out).symm.trans HP.out) (by simp)
             exact ⟨by rw [hk]; rfl, HBU.out.trans (HB0.out.mono HBU.out.size)⟩)
          | skip
      go_roundw
      case rel =>
        refine ⟨j + 1, by omega, by go_num, HBU.out.trans (HB0.out.mono HBU.out.size), ?_⟩
        rw [HTK.out]
        intro c hc
        rcases List.mem_append.1 hc with h | h
        · exact HB.out.2 c h
        · obtain rfl : c = kj := by simpa using h
          exact HP.out
      case measure => simp [intOf]; omega
    · obtain rfl : j = ks.length := by omega
      go_wp2
      go_ret
      have h9 := HB.out.2
      rw [List.take_of_length_le (Nat.le_refl _)] at h9
      exact ⟨by rw [HKB.out.2 h9]; rfl, HB.out.1⟩
end Go.Proofs.YtmhmlkdoaojimapGreatDoor

/- impl.Control. -/
namespace Go.Proofs.YtmhmlkdoaojimapGreatDoor
open Go.RowKit

set_option maxHeartbeats 8000000 in
theorem i_control (s : ByteArray) (w : World) :
    Calls Tryz.prog 54 #[.string s] w fun e w' => e = .returned (.bool (ctlB s)) ∧ Below w.heap.size w w' := by
  by_cases h0 : s = ⟨#[116, 114, 117, 101, 47, 48]⟩
  · subst h0
    have HV : Hid (ctlB ⟨#[116, 114, 117, 101, 47, 48]⟩ = true) := by show _ = _; decide +kernel
    skip
    go_enter Tryz.func54, Tryz.ntmps54
    go_wp2
    go_ret
    exact ⟨by rw [HV.out]; rfl, Below.refl _ _⟩
  by_cases h1 : s = ⟨#[102, 97, 105, 108, 47, 48]⟩
  · subst h1
    have HV : Hid (ctlB ⟨#[102, 97, 105, 108, 47, 48]⟩ = true) := by show _ = _; decide +kernel
    clear h0
    go_enter Tryz.func54, Tryz.ntmps54
    go_wp2
    go_ret
    exact ⟨by rw [HV.out]; rfl, Below.refl _ _⟩
  by_cases h2 : s = ⟨#[33, 47, 48]⟩
  · subst h2
    have HV : Hid (ctlB ⟨#[33, 47, 48]⟩ = true) := by show _ = _; decide +kernel
    clear h0 h1
    go_enter Tryz.func54, Tryz.ntmps54
    go_wp2
    go_ret
    exact ⟨by rw [HV.out]; rfl, Below.refl _ _⟩
  by_cases h3 : s = ⟨#[44, 47, 50]⟩
  · subst h3
    have HV : Hid (ctlB ⟨#[44, 47, 50]⟩ = true) := by show _ = _; decide +kernel
    clear h0 h1 h2
    go_enter Tryz.func54, Tryz.ntmps54
    go_wp2
    go_ret
    exact ⟨by rw [HV.out]; rfl, Below.refl _ _⟩
  by_cases h4 : s = ⟨#[59, 47, 50]⟩
  · subst h4
    have HV : Hid (ctlB ⟨#[59, 47, 50]⟩ = true) := by show _ = _; decide +kernel
    clear h0 h1 h2 h3
    go_enter Tryz.func54, Tryz.ntmps54
    go_wp2
    go_ret
    exact ⟨by rw [HV.out]; rfl, Below.refl _ _⟩
  by_cases h5 : s = ⟨#[45, 62, 47, 50]⟩
  · subst h5
    have HV : Hid (ctlB ⟨#[45, 62, 47, 50]⟩ = true) := by show _ = _; decide +kernel
    clear h0 h1 h2 h3 h4
    go_enter Tryz.func54, Tryz.ntmps54
    go_wp2
    go_ret
    exact ⟨by rw [HV.out]; rfl, Below.refl _ _⟩
  by_cases h6 : s = ⟨#[92, 43, 47, 49]⟩
  · subst h6
    have HV : Hid (ctlB ⟨#[92, 43, 47, 49]⟩ = true) := by show _ = _; decide +kernel
    clear h0 h1 h2 h3 h4 h5
    go_enter Tryz.func54, Tryz.ntmps54
    go_wp2
    go_ret
    exact ⟨by rw [HV.out]; rfl, Below.refl _ _⟩
  by_cases h7 : s = ⟨#[99, 97, 108, 108, 47, 49]⟩
  · subst h7
    have HV : Hid (ctlB ⟨#[99, 97, 108, 108, 47, 49]⟩ = true) := by show _ = _; decide +kernel
    clear h0 h1 h2 h3 h4 h5 h6
    go_enter Tryz.func54, Tryz.ntmps54
    go_wp2
    go_ret
    exact ⟨by rw [HV.out]; rfl, Below.refl _ _⟩
  by_cases h8 : s = ⟨#[99, 97, 108, 108, 47, 50]⟩
  · subst h8
    have HV : Hid (ctlB ⟨#[99, 97, 108, 108, 47, 50]⟩ = true) := by show _ = _; decide +kernel
    clear h0 h1 h2 h3 h4 h5 h6 h7
    go_enter Tryz.func54, Tryz.ntmps54
    go_wp2
    go_ret
    exact ⟨by rw [HV.out]; rfl, Below.refl _ _⟩
  by_cases h9 : s = ⟨#[99, 97, 108, 108, 47, 51]⟩
  · subst h9
    have HV : Hid (ctlB ⟨#[99, 97, 108, 108, 47, 51]⟩ = true) := by show _ = _; decide +kernel
    clear h0 h1 h2 h3 h4 h5 h6 h7 h8
    go_enter Tryz.func54, Tryz.ntmps54
    go_wp2
    go_ret
    exact ⟨by rw [HV.out]; rfl, Below.refl _ _⟩
  by_cases h10 : s = ⟨#[99, 97, 116, 99, 104, 47, 51]⟩
  · subst h10
    have HV : Hid (ctlB ⟨#[99, 97, 116, 99, 104, 47, 51]⟩ = true) := by show _ = _; decide +kernel
    clear h0 h1 h2 h3 h4 h5 h6 h7 h8 h9
    go_enter Tryz.func54, Tryz.ntmps54
    go_wp2
    go_ret
    exact ⟨by rw [HV.out]; rfl, Below.refl _ _⟩
  by_cases h11 : s = ⟨#[116, 104, 114, 111, 119, 47, 49]⟩
  · subst h11
    have HV : Hid (ctlB ⟨#[116, 104, 114, 111, 119, 47, 49]⟩ = true) := by show _ = _; decide +kernel
    clear h0 h1 h2 h3 h4 h5 h6 h7 h8 h9 h10
    go_enter Tryz.func54, Tryz.ntmps54
    go_wp2
    go_ret
    exact ⟨by rw [HV.out]; rfl, Below.refl _ _⟩
  by_cases h12 : s = ⟨#[61, 47, 50]⟩
  · subst h12
    have HV : Hid (ctlB ⟨#[61, 47, 50]⟩ = true) := by show _ = _; decide +kernel
    clear h0 h1 h2 h3 h4 h5 h6 h7 h8 h9 h10 h11
    go_enter Tryz.func54, Tryz.ntmps54
    go_wp2
    go_ret
    exact ⟨by rw [HV.out]; rfl, Below.refl _ _⟩
  by_cases h13 : s = ⟨#[92, 61, 47, 50]⟩
  · subst h13
    have HV : Hid (ctlB ⟨#[92, 61, 47, 50]⟩ = true) := by show _ = _; decide +kernel
    clear h0 h1 h2 h3 h4 h5 h6 h7 h8 h9 h10 h11 h12
    go_enter Tryz.func54, Tryz.ntmps54
    go_wp2
    go_ret
    exact ⟨by rw [HV.out]; rfl, Below.refl _ _⟩
  by_cases h14 : s = ⟨#[61, 61, 47, 50]⟩
  · subst h14
    have HV : Hid (ctlB ⟨#[61, 61, 47, 50]⟩ = true) := by show _ = _; decide +kernel
    clear h0 h1 h2 h3 h4 h5 h6 h7 h8 h9 h10 h11 h12 h13
    go_enter Tryz.func54, Tryz.ntmps54
    go_wp2
    go_ret
    exact ⟨by rw [HV.out]; rfl, Below.refl _ _⟩
  by_cases h15 : s = ⟨#[105, 115, 47, 50]⟩
  · subst h15
    have HV : Hid (ctlB ⟨#[105, 115, 47, 50]⟩ = true) := by show _ = _; decide +kernel
    clear h0 h1 h2 h3 h4 h5 h6 h7 h8 h9 h10 h11 h12 h13 h14
    go_enter Tryz.func54, Tryz.ntmps54
    go_wp2
    go_ret
    exact ⟨by rw [HV.out]; rfl, Below.refl _ _⟩
  by_cases h16 : s = ⟨#[60, 47, 50]⟩
  · subst h16
    have HV : Hid (ctlB ⟨#[60, 47, 50]⟩ = true) := by show _ = _; decide +kernel
    clear h0 h1 h2 h3 h4 h5 h6 h7 h8 h9 h10 h11 h12 h13 h14 h15
    go_enter Tryz.func54, Tryz.ntmps54
    go_wp2
    go_ret
    exact ⟨by rw [HV.out]; rfl, Below.refl _ _⟩
  by_cases h17 : s = ⟨#[61, 58, 61, 47, 50]⟩
  · subst h17
    have HV : Hid (ctlB ⟨#[61, 58, 61, 47, 50]⟩ = true) := by show _ = _; decide +kernel
    clear h0 h1 h2 h3 h4 h5 h6 h7 h8 h9 h10 h11 h12 h13 h14 h15 h16
    go_enter Tryz.func54, Tryz.ntmps54
    go_wp2
    go_ret
    exact ⟨by rw [HV.out]; rfl, Below.refl _ _⟩
  by_cases h18 : s = ⟨#[118, 97, 114, 47, 49]⟩
  · subst h18
    have HV : Hid (ctlB ⟨#[118, 97, 114, 47, 49]⟩ = true) := by show _ = _; decide +kernel
    clear h0 h1 h2 h3 h4 h5 h6 h7 h8 h9 h10 h11 h12 h13 h14 h15 h16 h17
    go_enter Tryz.func54, Tryz.ntmps54
    go_wp2
    go_ret
    exact ⟨by rw [HV.out]; rfl, Below.refl _ _⟩
  by_cases h19 : s = ⟨#[97, 116, 111, 109, 47, 49]⟩
  · subst h19
    have HV : Hid (ctlB ⟨#[97, 116, 111, 109, 47, 49]⟩ = true) := by show _ = _; decide +kernel
    clear h0 h1 h2 h3 h4 h5 h6 h7 h8 h9 h10 h11 h12 h13 h14 h15 h16 h17 h18
    go_enter Tryz.func54, Tryz.ntmps54
    go_wp2
    go_ret
    exact ⟨by rw [HV.out]; rfl, Below.refl _ _⟩
  by_cases h20 : s = ⟨#[119, 114, 105, 116, 101, 47, 49]⟩
  · subst h20
    have HV : Hid (ctlB ⟨#[119, 114, 105, 116, 101, 47, 49]⟩ = true) := by show _ = _; decide +kernel
    clear h0 h1 h2 h3 h4 h5 h6 h7 h8 h9 h10 h11 h12 h13 h14 h15 h16 h17 h18 h19
    go_enter Tryz.func54, Tryz.ntmps54
    go_wp2
    go_ret
    exact ⟨by rw [HV.out]; rfl, Below.refl _ _⟩
  by_cases h21 : s = ⟨#[97, 115, 115, 101, 114, 116, 122, 47, 49]⟩
  · subst h21
    have HV : Hid (ctlB ⟨#[97, 115, 115, 101, 114, 116, 122, 47, 49]⟩ = true) := by show _ = _; decide +kernel
    clear h0 h1 h2 h3 h4 h5 h6 h7 h8 h9 h10 h11 h12 h13 h14 h15 h16 h17 h18 h19 h20
    go_enter Tryz.func54, Tryz.ntmps54
    go_wp2
    go_ret
    exact ⟨by rw [HV.out]; rfl, Below.refl _ _⟩
  by_cases h22 : s = ⟨#[114, 101, 116, 114, 97, 99, 116, 47, 49]⟩
  · subst h22
    have HV : Hid (ctlB ⟨#[114, 101, 116, 114, 97, 99, 116, 47, 49]⟩ = true) := by show _ = _; decide +kernel
    clear h0 h1 h2 h3 h4 h5 h6 h7 h8 h9 h10 h11 h12 h13 h14 h15 h16 h17 h18 h19 h20 h21
    go_enter Tryz.func54, Tryz.ntmps54
    go_wp2
    go_ret
    exact ⟨by rw [HV.out]; rfl, Below.refl _ _⟩
  by_cases h23 : s = ⟨#[58, 45, 47, 50]⟩
  · subst h23
    have HV : Hid (ctlB ⟨#[58, 45, 47, 50]⟩ = true) := by show _ = _; decide +kernel
    clear h0 h1 h2 h3 h4 h5 h6 h7 h8 h9 h10 h11 h12 h13 h14 h15 h16 h17 h18 h19 h20 h21 h22
    go_enter Tryz.func54, Tryz.ntmps54
    go_wp2
    go_ret
    exact ⟨by rw [HV.out]; rfl, Below.refl _ _⟩
  by_cases h24 : s = ⟨#[58, 45, 47, 49]⟩
  · subst h24
    have HV : Hid (ctlB ⟨#[58, 45, 47, 49]⟩ = true) := by show _ = _; decide +kernel
    clear h0 h1 h2 h3 h4 h5 h6 h7 h8 h9 h10 h11 h12 h13 h14 h15 h16 h17 h18 h19 h20 h21 h22 h23
    go_enter Tryz.func54, Tryz.ntmps54
    go_wp2
    go_ret
    exact ⟨by rw [HV.out]; rfl, Below.refl _ _⟩
  by_cases h25 : s = ⟨#[45, 45, 62, 47, 50]⟩
  · subst h25
    have HV : Hid (ctlB ⟨#[45, 45, 62, 47, 50]⟩ = true) := by show _ = _; decide +kernel
    clear h0 h1 h2 h3 h4 h5 h6 h7 h8 h9 h10 h11 h12 h13 h14 h15 h16 h17 h18 h19 h20 h21 h22 h23 h24
    go_enter Tryz.func54, Tryz.ntmps54
    go_wp2
    go_ret
    exact ⟨by rw [HV.out]; rfl, Below.refl _ _⟩
  have e0 : (s.toList == [116, 114, 117, 101, 47, 48]) = false := toL_neq (l := [116, 114, 117, 101, 47, 48]) h0
  have e1 : (s.toList == [102, 97, 105, 108, 47, 48]) = false := toL_neq (l := [102, 97, 105, 108, 47, 48]) h1
  have e2 : (s.toList == [33, 47, 48]) = false := toL_neq (l := [33, 47, 48]) h2
  have e3 : (s.toList == [44, 47, 50]) = false := toL_neq (l := [44, 47, 50]) h3
  have e4 : (s.toList == [59, 47, 50]) = false := toL_neq (l := [59, 47, 50]) h4
  have e5 : (s.toList == [45, 62, 47, 50]) = false := toL_neq (l := [45, 62, 47, 50]) h5
  have e6 : (s.toList == [92, 43, 47, 49]) = false := toL_neq (l := [92, 43, 47, 49]) h6
  have e7 : (s.toList == [99, 97, 108, 108, 47, 49]) = false := toL_neq (l := [99, 97, 108, 108, 47, 49]) h7
  have e8 : (s.toList == [99, 97, 108, 108, 47, 50]) = false := toL_neq (l := [99, 97, 108, 108, 47, 50]) h8
  have e9 : (s.toList == [99, 97, 108, 108, 47, 51]) = false := toL_neq (l := [99, 97, 108, 108, 47, 51]) h9
  have e10 : (s.toList == [99, 97, 116, 99, 104, 47, 51]) = false := toL_neq (l := [99, 97, 116, 99, 104, 47, 51]) h10
  have e11 : (s.toList == [116, 104, 114, 111, 119, 47, 49]) = false := toL_neq (l := [116, 104, 114, 111, 119, 47, 49]) h11
  have e12 : (s.toList == [61, 47, 50]) = false := toL_neq (l := [61, 47, 50]) h12
  have e13 : (s.toList == [92, 61, 47, 50]) = false := toL_neq (l := [92, 61, 47, 50]) h13
  have e14 : (s.toList == [61, 61, 47, 50]) = false := toL_neq (l := [61, 61, 47, 50]) h14
  have e15 : (s.toList == [105, 115, 47, 50]) = false := toL_neq (l := [105, 115, 47, 50]) h15
  have e16 : (s.toList == [60, 47, 50]) = false := toL_neq (l := [60, 47, 50]) h16
  have e17 : (s.toList == [61, 58, 61, 47, 50]) = false := toL_neq (l := [61, 58, 61, 47, 50]) h17
  have e18 : (s.toList == [118, 97, 114, 47, 49]) = false := toL_neq (l := [118, 97, 114, 47, 49]) h18
  have e19 : (s.toList == [97, 116, 111, 109, 47, 49]) = false := toL_neq (l := [97, 116, 111, 109, 47, 49]) h19
  have e20 : (s.toList == [119, 114, 105, 116, 101, 47, 49]) = false := toL_neq (l := [119, 114, 105, 116, 101, 47, 49]) h20
  have e21 : (s.toList == [97, 115, 115, 101, 114, 116, 122, 47, 49]) = false := toL_neq (l := [97, 115, 115, 101, 114, 116, 122, 47, 49]) h21
  have e22 : (s.toList == [114, 101, 116, 114, 97, 99, 116, 47, 49]) = false := toL_neq (l := [114, 101, 116, 114, 97, 99, 116, 47, 49]) h22
  have e23 : (s.toList == [58, 45, 47, 50]) = false := toL_neq (l := [58, 45, 47, 50]) h23
  have e24 : (s.toList == [58, 45, 47, 49]) = false := toL_neq (l := [58, 45, 47, 49]) h24
  have e25 : (s.toList == [45, 45, 62, 47, 50]) = false := toL_neq (l := [45, 45, 62, 47, 50]) h25
  clear h0 h1 h2 h3 h4 h5 h6 h7 h8 h9 h10 h11 h12 h13 h14 h15 h16 h17 h18 h19 h20 h21 h22 h23 h24 h25
  have HV : Hid (ctlB s = false) := ctl_no e0 e1 e2 e3 e4 e5 e6 e7 e8 e9 e10 e11 e12 e13 e14 e15 e16 e17 e18 e19 e20 e21 e22 e23 e24 e25
  go_enter Tryz.func54, Tryz.ntmps54
  go_wp2
  go_ret
  exact ⟨by rw [HV.out]; rfl, Below.refl _ _⟩
end Go.Proofs.YtmhmlkdoaojimapGreatDoor
