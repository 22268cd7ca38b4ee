/- Four texts in one. -/
import Derived.Test.YtmhmlkdoaojimapMrg4
import Derived.Laws.MakeOwn
import Derived.WalkKit
import Derived.BigQuiet
/- laws.toClauseS. -/
namespace Go.Proofs.Ytmhmlkdoaojimap
open Go.RowKit

theorem infoC : (Try.prog.info? 56).map (fun i => (i.zero, i.size, i.bytes)) = some (some (.agg #[.int .i64 0, .string ⟨#[]⟩, .int .i64 0, .slice none 0 0, .int .i64 0, .string ⟨#[]⟩, .int .i64 0, .slice none 0 0, .string ⟨#[]⟩]), 9, 128) := by kernel_rfl

theorem make_clauses (n : Nat) (h1 : n ≤ 1048576) : ∃ M : Array Value, M.size = n * 9 ∧
    (∀ W : World, (Instr.makeSlice 27 (.int .i64 (n : Int)) (.int .i64 (n : Int))).run Try.prog W = .ok (.slice (some ⟨W.heap.size, 0, none⟩) n n) (W.alloc (.cells M 56))) := by
  obtain ⟨i0, hi, hz0, hz1, hz2⟩ := info_parts infoC
  refine ⟨madeCells (Value.agg #[.int .i64 0, .string ⟨#[]⟩, .int .i64 0, .slice none 0 0, .int .i64 0, .string ⟨#[]⟩, .int .i64 0, .slice none 0 0, .string ⟨#[]⟩]).cells (n * i0.size), ?_, ?_⟩
  · rw [size_madeCells, hz1]
  · intro W
    have h := run_make (P := Try.prog) W 27 56 i0 _ Try.underlying27 hi hz0 .i64 .i64 n n (by omega) (by omega) (by rw [hz2]; omega) (by omega)
    simpa using h

theorem claWt_le {ks : List Cla} {c : Cla} (h : c ∈ ks) : c.wt ≤ claWts ks := by
  induction ks with
  | nil => cases h
  | cons a r ih =>
    simp only [claWts]
    rcases List.mem_cons.1 h with rfl | h
    · omega
    · have := ih h; omega

set_option maxHeartbeats 4000000 in
set_option maxRecDepth 20000 in
theorem to_clauses (ks : List Cla) (w : World) (sl : Value) (hlen : ks.length + claWts ks ≤ 1048576) (h : ClsIn w ks sl) :
    Calls Try.prog 15 #[sl] w fun e w' => ∃ sl F, e = .returned sl ∧ OwnClS 56 54 w' ks sl F ∧ (∀ f ∈ F, w.heap.size ≤ f) ∧ F.Nodup ∧ Below w.heap.size w w' := by
  obtain ⟨ao, cap, rfl, hcap, hmax, h⟩ := h
  clear hcap hmax
  obtain ⟨M, hM, hmk⟩ := make_clauses ks.length (by omega)
  go_enter Try.func15, Try.ntmps15
  go_wp2
  clear hmk
  go_loopw [4] (fun vi wr => ∃ (j : Nat) (cur : Array Value) (F : List Nat), j ≤ ks.length ∧ vi = .int .i64 (j : Int) ∧ Hid (Below w.heap.size w wr) ∧ wr.heap[w.heap.size]? = some (.cells cur 56 (0, 0)) ∧ cur.size = ks.length * 9 ∧
      Hid (OwnCs 54 wr (ks.take j) (cur.toList.take (j * 9)) F ∧ (∀ f ∈ F, w.heap.size < f) ∧ F.Nodup)) (fun i _ => ks.length - (intOf i).toNat)
  case atStart =>
    refine ⟨0, M, [], by omega, rfl, (Below.refl _ _).alloc (Nat.le_refl _) _, by rw [heap_alloc_new], hM, ?_⟩
    exact ⟨by simp [OwnCs], by simp, by simp⟩
  case round =>
    obtain ⟨j, cur, F, hj, rfl, HB, hblk, hcs, HO⟩ := hrel
    by_cases hlt : j < ks.length
    · obtain ⟨b, off, rfl, hin⟩ := h (by intro e; subst e; simp at hlt)
      obtain ⟨k1, s1, n1, a1, l1, m1, k2, s2, n2, a2, l2, m2, h0, h1, h2, h3, h4, h5, h6, h7, h8, hf, i1, i2⟩ := (hin j hlt).keep HB.out
      have hwj := claWt_le (List.getElem_mem hlt)
      have hwj1 : ks[j].h.wt ≤ 1048576 := by unfold Cla.wt at hwj; omega
      have hwj2 : ks[j].b.wt ≤ 1048576 := by unfold Cla.wt at hwj; omega
      have HC : Hid _ := to_clause ks[j].h ks[j].b ks[j].f wr k1 s1 n1 a1 l1 m1 k2 s2 n2 a2 l2 m2 i1 i2 hwj1 hwj2
      have HSF : Hid (ks[j].f.size ≤ maxLen) := hf
      have HTK : Hid (ks.take (j + 1) = ks.take j ++ [ks[j]]) := List.take_succ_eq_append_getElem hlt
      have hg : w.heap.size < wr.heap.size := (Array.getElem?_eq_some_iff.1 hblk).1
      have hkeep : ∀ w1 : World, Below wr.heap.size wr w1 → w1.heap[w.heap.size]? = some (.cells cur 56 (0, 0)) := fun w1 hb => (hb.block _ hg).trans hblk
      have HK : Hid _ := hkeep
      clear hin i1 i2 h hf hkeep hblk hwj hwj1 hwj2
      generalize ks[j] = kj at *
      obtain ⟨kh, kb, kf⟩ := kj
      simp only at h8 HC HSF
      go_wp2_with (go_at_call 30; refine (Calls.mono HC.out ?_); rintro e w1 ⟨k, s, n, ao, l, c, k', s', n', ao', l', c', F1, G1, rfl, o1, o2, f1, f2, nd1, nd2, ap, hb⟩; have hg1 := HK.out w1 hb; have x0 := blk_cell (i := j * 9) hg1 (by omega); have x1 := blk_cell (i := j * 9 + 1) hg1 (by omega); have x2 := blk_cell (i := j * 9 + 2) hg1 (by omega); have x3 := blk_cell (i := j * 9 + 3) hg1 (by omega); have x4 := blk_cell (i := j * 9 + 4) hg1 (by omega); have x5 := blk_cell (i := j * 9 + 5) hg1 (by omega); have x6 := blk_cell (i := j * 9 + 6) hg1 (by omega); have x7 := blk_cell (i := j * 9 + 7) hg1 (by omega); have x8 := blk_cell (i := j * 9 + 8) hg1 (by omega); have z0 := blk_frozen hg1 (j * 9); have z1 := blk_frozen hg1 (j * 9 + 1); have z2 := blk_frozen hg1 (j * 9 + 2); have z3 := blk_frozen hg1 (j * 9 + 3); have z4 := blk_frozen hg1 (j * 9 + 4); have z5 := blk_frozen hg1 (j * 9 + 5); have z6 := blk_frozen hg1 (j * 9 + 6); have z7 := blk_frozen hg1 (j * 9 + 7); have z8 := blk_frozen hg1 (j * 9 + 8); have HO1 : Hid _ := o1; have HO2 : Hid _ := o2; have HFR : Hid ((∀ x ∈ F1 ++ G1, wr.heap.size ≤ x) ∧ (F1 ++ G1).Nodup) := ⟨fun x hx => (List.mem_append.1 hx).elim (f1 x) (f2 x), List.nodup_append.2 ⟨nd1, nd2, fun a ha b hb e => ap b hb (e ▸ ha)⟩⟩; have HG : Hid _ := hg1; have HBB : Hid _ := hb; clear o1 o2 f1 f2 nd1 nd2 ap hg1 hb)
      go_roundw
      case rel =>
        have hsz := HB.out.size
        have hb1 := HBB.out
        have hg1 := HG.out
        obtain ⟨o1, o2, o3⟩ := HO.out
        have hlt1 := OwnCs.lt _ _ _ o1
        have hne : ∀ f, w.heap.size < f → f ≠ w.heap.size := fun f hf => by omega
        refine ⟨j + 1, _, F ++ (F1 ++ G1), by omega, by go_num, ?_, blk_set (blk_set (blk_set (blk_set (blk_set (blk_set (blk_set (blk_set (blk_set hg1 _) _) _) _) _) _) _) _) _, by simp; exact hcs, ?_, ?_, ?_⟩
        · exact below_set (below_set (below_set (below_set (below_set (below_set (below_set (below_set (below_set (HB.out.trans (hb1.mono hsz)) (Nat.le_refl _) _) (Nat.le_refl _) _) (Nat.le_refl _) _) (Nat.le_refl _) _) (Nat.le_refl _) _) (Nat.le_refl _) _) (Nat.le_refl _) _) (Nat.le_refl _) _) (Nat.le_refl _) _
        · rw [HTK.out, set9_take (by omega)]
          have hoc : OwnC 54 w1 ⟨kh, kb, kf⟩ [.int .i64 k, .string s, .int .i64 n, .slice ao l c, .int .i64 k', .string s', .int .i64 n', .slice ao' l' c', .string kf] (F1 ++ G1) := ⟨k, s, n, ao, l, c, k', s', n', ao', l', c', F1, G1, rfl, rfl, HSF.out, HO1.out, HO2.out⟩
          refine OwnCs.snoc (hoc.keep fun f hf => ?_) _ _ _ (OwnCs.keep _ _ _ o1 fun f hf => ?_)
          · have h1 := HFR.out.1 f hf
            rw [blk_other _ (hne f (by omega)), blk_other _ (hne f (by omega)), blk_other _ (hne f (by omega)), blk_other _ (hne f (by omega)), blk_other _ (hne f (by omega)), blk_other _ (hne f (by omega)), blk_other _ (hne f (by omega)), blk_other _ (hne f (by omega)), blk_other _ (hne f (by omega))]
          · have h1 := o2 f hf
            rw [blk_other _ (hne f h1), blk_other _ (hne f h1), blk_other _ (hne f h1), blk_other _ (hne f h1), blk_other _ (hne f h1), blk_other _ (hne f h1), blk_other _ (hne f h1), blk_other _ (hne f h1), blk_other _ (hne f h1)]
            exact hb1.block f (hlt1 f hf)
        · intro f hf
          rcases List.mem_append.1 hf with hf | hf
          · exact o2 f hf
          · have := HFR.out.1 f hf; omega
        · refine List.nodup_append.2 ⟨o3, HFR.out.2, fun a ha b hb => ?_⟩
          have h1 := hlt1 a ha
          have h2 := HFR.out.1 b hb
          omega
      case measure => simp [intOf]; omega
    · obtain rfl : j = ks.length := by omega
      go_wp2
      go_ret
      obtain ⟨o1, o2, o3⟩ := HO.out
      rw [List.take_of_length_le (Nat.le_refl _)] at o1
      refine ⟨_, w.heap.size :: F, rfl, Or.inr ⟨w.heap.size, ks.length, cur.toList.take (ks.length * 9), F, rfl, ⟨by simp [hcs], Or.inr ⟨w.heap.size, ks.length, cur, rfl, Nat.zero_le _, hblk, Nat.le_refl _, by unfold maxLen; omega, hcs, rfl⟩⟩, rfl, o1⟩, ?_, ?_, HB.out⟩
      · intro f hf
        rcases List.mem_cons.1 hf with rfl | hf
        · exact Nat.le_refl _
        · have := o2 f hf; omega
      · refine List.nodup_cons.2 ⟨fun hf => ?_, o3⟩
        have := o2 _ hf
        omega
end Go.Proofs.Ytmhmlkdoaojimap

/- laws.toStringS, laws.toDb. -/
namespace Go.Proofs.Ytmhmlkdoaojimap
open Go.RowKit

theorem infoSt : (Try.prog.info? 9).map (fun i => (i.zero, i.size, i.bytes)) = some (some (.string ⟨#[]⟩), 1, 16) := by kernel_rfl

theorem make_strs (n : Nat) (h1 : n ≤ 1048576) : ∃ M : Array Value, M.size = n ∧
    (∀ W : World, (Instr.makeSlice 23 (.int .i64 (n : Int)) (.int .i64 (n : Int))).run Try.prog W = .ok (.slice (some ⟨W.heap.size, 0, none⟩) n n) (W.alloc (.cells M 9))) := by
  obtain ⟨i0, hi, hz0, hz1, hz2⟩ := info_parts infoSt
  refine ⟨madeCells (Value.string ⟨#[]⟩).cells (n * i0.size), ?_, ?_⟩
  · rw [size_madeCells, hz1, Nat.mul_one]
  · intro W
    have h := run_make (P := Try.prog) W 23 9 i0 _ Try.underlying23 hi hz0 .i64 .i64 n n (by omega) (by omega) (by rw [hz2]; omega) (by omega)
    simpa using h

set_option maxRecDepth 20000 in
theorem to_strs (xs : List ByteArray) (w : World) (sl : Value) (hlen : xs.length ≤ 1048576) (h : SsIn w xs sl) :
    Calls Try.prog 16 #[sl] w fun e w' => ∃ sl, e = .returned sl ∧ sl = .slice (some ⟨w.heap.size, 0, none⟩) xs.length xs.length ∧ w'.ownsRow 0 9 1 sl xs.length (xs.map Value.string) ∧ Below w.heap.size w w' := by
  obtain ⟨ao, cap, rfl, hcap, hmax, h⟩ := h
  clear hcap hmax
  obtain ⟨M, hM, hmk⟩ := make_strs xs.length (by omega)
  go_enter Try.func16, Try.ntmps16
  go_wp2
  clear hmk
  go_loopw [4] (fun vi wr => ∃ (j : Nat) (cur : Array Value), j ≤ xs.length ∧ vi = .int .i64 (j : Int) ∧ Hid (Below w.heap.size w wr) ∧ wr.heap[w.heap.size]? = some (.cells cur 9 (0, 0)) ∧ cur.size = xs.length ∧
      Hid (cur.toList.take j = (xs.take j).map Value.string)) (fun i _ => xs.length - (intOf i).toNat)
  case atStart =>
    exact ⟨0, M, by omega, rfl, (Below.refl _ _).alloc (Nat.le_refl _) _, by rw [heap_alloc_new], hM, by show _ = _; simp⟩
  case round =>
    obtain ⟨j, cur, hj, rfl, HB, hblk, hcs, HO⟩ := hrel
    by_cases hlt : j < xs.length
    · obtain ⟨b, off, rfl, hin⟩ := h (by intro e; subst e; simp at hlt)
      obtain ⟨hc, _⟩ := hin j hlt
      have hc' := cell_keep hc HB.out
      have HTK : Hid (xs.take (j + 1) = xs.take j ++ [xs[j]]) := List.take_succ_eq_append_getElem hlt
      have x0 := blk_cell (i := j) hblk (by omega)
      have z0 := blk_frozen hblk j
      have HG : Hid _ := hblk
      have hbb : b < w.heap.size := cell_blk hc
      clear hin h hc hblk
      generalize xs[j] = xj at *
      go_wp2
      go_roundw
      case rel =>
        refine ⟨j + 1, _, by omega, by go_num, below_set HB.out (Nat.le_refl _) _, blk_set HG.out _, by simpa using hcs, ?_⟩
        show _ = _
        rw [HTK.out, Array.toList_setIfInBounds, take_set1 (by simp; omega), HO.out]
        simp
      case measure => simp [intOf]; omega
    · obtain rfl : j = xs.length := by omega
      go_wp2
      go_ret
      have ho := HO.out
      rw [List.take_of_length_le (Nat.le_refl _)] at ho
      exact ⟨_, rfl, rfl, ⟨by simp, Or.inr ⟨w.heap.size, xs.length, cur, rfl, Nat.zero_le _, hblk, Nat.le_refl _, by unfold maxLen; omega, by simpa using hcs, by rw [Nat.mul_one]; exact ho⟩⟩, HB.out⟩
end Go.Proofs.Ytmhmlkdoaojimap

/- laws.toDb. -/
namespace Go.Proofs.Ytmhmlkdoaojimap
open Go.RowKit

set_option maxHeartbeats 4000000 in
set_option maxRecDepth 20000 in
theorem to_db (cs : List Cla) (xs : List ByteArray) (w : World) (c0 c1 : Value) (h : ClsIn w cs c0) (hx : SsIn w xs c1) (hl1 : cs.length + claWts cs ≤ 1048576) (hl2 : xs.length ≤ 1048576) :
    Calls Try.prog 6 #[.agg #[c0, c1]] w fun e w' => ∃ sl F g, e = .returned (.agg #[sl, .slice (some ⟨g, 0, none⟩) xs.length xs.length]) ∧ OwnClS 56 54 w' cs sl F ∧ w'.ownsRow 0 9 1 (.slice (some ⟨g, 0, none⟩) xs.length xs.length) xs.length (xs.map Value.string) ∧
      (∀ f ∈ F, w.heap.size ≤ f) ∧ F.Nodup ∧ w.heap.size ≤ g ∧ g ∉ F ∧ Below w.heap.size w w' := by
  obtain ⟨W, hW⟩ : ∃ W, W = ((w.alloc (.cells #[c0, c1] 25)).alloc (.cells #[.slice none 0 0, .slice none 0 0] 29)).alloc (.cells #[.slice none 0 0, .slice none 0 0] 29) := ⟨_, rfl⟩
  have bW : Below w.heap.size w W := by rw [hW]; exact (((Below.refl _ _).alloc (Nat.le_refl _) _).alloc (by simp) _).alloc (by simp; omega) _
  have lW : W.heap.size = w.heap.size + 3 := by rw [hW]; simp
  have k1' : W.heap[w.heap.size]? = some (.cells #[c0, c1] 25 (0, 0)) := by rw [hW]; exact (alloc_old _ _ (by simp; omega)).trans ((alloc_old _ _ (by simp)).trans (alloc_at _ _ rfl))
  have k2' : W.heap[w.heap.size + 1]? = some (.cells #[.slice none 0 0, .slice none 0 0] 29 (0, 0)) := by rw [hW]; exact (alloc_old _ _ (by simp)).trans (alloc_at _ _ (by simp))
  have k3' : W.heap[w.heap.size + 2]? = some (.cells #[.slice none 0 0, .slice none 0 0] 29 (0, 0)) := by rw [hW]; exact alloc_at _ _ (by simp)
  have HC1 : Hid _ := to_clauses cs W c0 hl1 (h.keep bW)
  have HC2 : Hid (∀ w1, Below w.heap.size w w1 → Calls Try.prog 16 #[c1] w1 fun e w' => ∃ sl, e = .returned sl ∧ sl = .slice (some ⟨w1.heap.size, 0, none⟩) xs.length xs.length ∧ w'.ownsRow 0 9 1 sl xs.length (xs.map Value.string) ∧ Below w1.heap.size w1 w') := fun w1 hb => to_strs xs w1 _ hl2 (hx.keep hb)
  obtain ⟨a1, p1, rfl, -⟩ := h
  obtain ⟨a2, p2, rfl, -⟩ := hx
  have HBW : Hid (Below w.heap.size w W) := bW
  have HL : Hid (W.heap.size = w.heap.size + 3) := lW
  have HK1 : Hid (W.heap[w.heap.size]? = _) := k1'
  have HK2 : Hid (W.heap[w.heap.size + 1]? = _) := k2'
  have HK3 : Hid (W.heap[w.heap.size + 2]? = _) := k3'
  clear bW lW k1' k2' k3' hl1 hl2
  go_enter Try.func6, Try.ntmps6
  go_upto_region 2 with fail
  rw [← hW]
  clear hW
  obtain ⟨p, hp⟩ : ∃ p, p = w.heap.size := ⟨_, rfl⟩
  rw [← hp] at HL HK1 HK2 HK3 ⊢
  have HPP : Hid (p = w.heap.size) := hp
  clear hp
  have hpq : p ≠ p + 2 := by omega
  have y0 := blk_cell (i := 0) HK1.out (by simp)
  go_upto_region 3 with (go_at_call 15; refine (Calls.mono HC1.out ?_); rintro e w1 ⟨sl, F, rfl, o, hf, nd, hb⟩; obtain ⟨a3, p3, rfl⟩ := ownClS_shape o; have HO1 : Hid _ := o; have HF1 : Hid ((∀ x ∈ F, p + 3 ≤ x) ∧ F.Nodup) := ⟨fun x hx => by have := hf x hx; have := HL.out; omega, nd⟩; have HB1 : Hid (Below W.heap.size W w1) := hb; have hk := (hb.block _ (Array.getElem?_eq_some_iff.1 HK3.out).1).trans HK3.out; have HKP : Hid _ := hk; clear o hf nd hb; clear y0; have z0 := blk_cell (i := 0) hk (by simp); have g0 := blk_frozen hk 0; clear hk)
  clear z0 g0
  obtain ⟨V1, hV1⟩ : ∃ V1, V1 = w1.setCell ⟨p + 1 + 1, 0, none⟩ (.slice a3 cs.length p3) := ⟨_, rfl⟩
  first | rw [← hV1] | (have hV1' := hV1; simp only [Nat.add_assoc, Nat.reduceAdd] at hV1'; rw [← hV1'])
  replace hV1 : V1 = w1.setCell ⟨p + 2, 0, none⟩ (.slice a3 cs.length p3) := hV1
  have b1 : Below p w V1 := by rw [hV1]; exact below_set (by rw [HPP.out]; exact HBW.out.trans (HB1.out.mono HBW.out.size)) (by omega) _
  have hk1 : V1.heap[p]? = some (.cells #[.slice a1 cs.length p1, .slice a2 xs.length p2] 25 (0, 0)) := by rw [hV1]; exact (blk_other _ (by omega)).trans ((HB1.out.block _ (Array.getElem?_eq_some_iff.1 HK1.out).1).trans HK1.out)
  have hk2 : V1.heap[p + 1]? = some (.cells #[.slice none 0 0, .slice none 0 0] 29 (0, 0)) := by rw [hV1]; exact (blk_other _ (by omega)).trans ((HB1.out.block _ (Array.getElem?_eq_some_iff.1 HK2.out).1).trans HK2.out)
  have hk3 : V1.heap[p + 2]? = some (.cells #[.slice a3 cs.length p3, .slice none 0 0] 29 (0, 0)) := by rw [hV1]; simpa using blk_set (i := 0) HKP.out (.slice a3 cs.length p3)
  have hs1 : V1.heap.size = w1.heap.size := by rw [hV1]; simp [World.setCell]
  have HOV : Hid (OwnClS 56 54 V1 cs (.slice a3 cs.length p3) F) := by rw [hV1]; exact OwnClS.keep HO1.out fun x hx => blk_other _ (by have := HF1.out.1 x hx; omega)
  have HS1 : Hid (∀ x ∈ F, x < V1.heap.size) := fun x hx => by rw [hs1]; exact OwnClS.lt HO1.out x hx
  have HB1V : Hid (Below w.heap.size w V1) := by show Below _ _ _; rw [← HPP.out]; exact b1
  have HP1 : Hid (p + 3 ≤ V1.heap.size) := by have := HB1.out.size; have := HL.out; show _ ≤ _; omega
  have HK4 : Hid (V1.heap[p + 1]? = _ ∧ V1.heap[p + 2]? = _) := ⟨hk2, hk3⟩
  have HC3 : Hid _ := HC2.out V1 HB1V.out
  have y1 := blk_cell (i := 1) hk1 (by simp)
  clear hV1 b1 hs1 hk1 hk2 hk3 HKP HO1 HB1 HC1 HC2
  go_upto_region 4 with (go_at_call 16; refine (Calls.mono HC3.out ?_); rintro e w2 ⟨_, rfl, rfl, o, hb⟩; have HO2 : Hid _ := o; have HB2 : Hid (Below V1.heap.size V1 w2) := hb; have hk := (hb.block _ (Array.getElem?_eq_some_iff.1 HK4.out.2).1).trans HK4.out.2; have HKP : Hid _ := hk; clear o hb; clear y1; have z0 := blk_cell (i := 1) hk (by simp); have g0 := blk_frozen hk 1; clear hk)
  clear z0 g0
  obtain ⟨G, hG⟩ : ∃ G, G = V1.heap.size := ⟨_, rfl⟩
  rw [← hG] at HO2 ⊢
  have HGG : Hid (G = V1.heap.size) := hG
  clear hG
  obtain ⟨V2, hV2⟩ : ∃ V2, V2 = w2.setCell ⟨p + 1 + 1, 1, none⟩ (.slice (some ⟨G, 0, none⟩) xs.length xs.length) := ⟨_, rfl⟩
  first | rw [← hV2] | (have hV2' := hV2; simp only [Nat.add_assoc, Nat.reduceAdd] at hV2'; rw [← hV2'])
  replace hV2 : V2 = w2.setCell ⟨p + 2, 1, none⟩ (.slice (some ⟨G, 0, none⟩) xs.length xs.length) := hV2
  have hk2 : V2.heap[p + 1]? = some (.cells #[.slice none 0 0, .slice none 0 0] 29 (0, 0)) := by rw [hV2]; exact (blk_other _ (by omega)).trans ((HB2.out.block _ (Array.getElem?_eq_some_iff.1 HK4.out.1).1).trans HK4.out.1)
  have hk3 : V2.heap[p + 2]? = some (.cells #[.slice a3 cs.length p3, .slice (some ⟨G, 0, none⟩) xs.length xs.length] 29 (0, 0)) := by rw [hV2]; simpa using blk_set (i := 1) HKP.out (.slice (some ⟨G, 0, none⟩) xs.length xs.length)
  have HFIN : Hid (∀ V, V = (V2.setCell ⟨p + 1, 0, none⟩ (.slice a3 cs.length p3)).setCell ⟨p + 1, 1, none⟩ (.slice (some ⟨G, 0, none⟩) xs.length xs.length) → V.heap[p + 1]? = some (.cells #[.slice a3 cs.length p3, .slice (some ⟨G, 0, none⟩) xs.length xs.length] 29 (0, 0)) ∧
      OwnClS 56 54 V cs (.slice a3 cs.length p3) F ∧ V.ownsRow 0 9 1 (.slice (some ⟨G, 0, none⟩) xs.length xs.length) xs.length (xs.map Value.string) ∧ (∀ f ∈ F, p ≤ f) ∧ F.Nodup ∧ p ≤ G ∧ G ∉ F ∧ Below p w V) := by
    rintro V rfl
    have hG := HGG.out
    have hP := HP1.out
    refine ⟨by simpa using blk_set (i := 1) (blk_set (i := 0) hk2 (.slice a3 cs.length p3)) (.slice (some ⟨G, 0, none⟩) xs.length xs.length), OwnClS.keep HOV.out fun f hf => ?_, row_keep HO2.out ?_, fun f hf => by have := HF1.out.1 f hf; omega, HF1.out.2, by omega, fun hf => by have := HS1.out G hf; omega, ?_⟩
    · have h1 := HF1.out.1 f hf
      rw [blk_other _ (by omega), blk_other _ (by omega), hV2, blk_other _ (by omega)]
      exact HB2.out.block f (HS1.out f hf)
    · rw [blk_other _ (by omega), blk_other _ (by omega), hV2, blk_other _ (by omega)]
    · refine below_set (below_set ?_ (by omega) _) (by omega) _
      rw [hV2]
      refine below_set ?_ (by omega) _
      have := HB1V.out
      rw [← HPP.out] at this
      exact this.trans (HB2.out.mono (by omega))
  have y0 := blk_cell (i := 0) hk2 (by simp)
  have y1 := blk_cell (i := 1) hk2 (by simp)
  have f0 := blk_frozen hk2 0
  have f1 := blk_frozen hk2 1
  have z0 := blk_cell (i := 0) hk3 (by simp)
  have z1 := blk_cell (i := 1) hk3 (by simp)
  clear hk2 hk3 hV2 HKP HO2 HOV
  go_wp2
  obtain ⟨r1, r2⟩ := HFIN.out _ rfl
  refine bodyPost_ret_by (results_cell_row rfl _ _ (p + 1) 29 _ (0, 0) _ rfl r1 Try.underlying29 rfl (by kernel_rfl)) rfl ?_
  exact ⟨_, F, G, rfl, by simpa only [HPP.out] using r2⟩
end Go.Proofs.Ytmhmlkdoaojimap

/- A region that draws its order, reads memory, and holds calls which make memory, but whose values do not hang on what is made: walked once, in the order of the text, over all worlds that are as the first one was below its end. -/
namespace Go.Proofs.Ytmhmlkdoaojimap
open Go.RowKit

/-- any world that is as W was below W's end (and W itself in the place of any other) -/
noncomputable def later (W u : World) : World := @ite _ (Below W.heap.size W u) (Classical.propDecidable _) u W

theorem later_below (W u : World) : Below W.heap.size W (later W u) := by
  unfold later
  split
  · assumption
  · exact Below.refl _ _
theorem later_of {W u : World} (h : Below W.heap.size W u) : u = later W u := by
  unfold later
  rw [if_pos h]

theorem wp_region_later {P : Program} {id : Nat} {Q : Exit → Act → World → Prop} {a : Act} {w : World} {l : List Oper} (hm : P.follows .mixedOrders = true) (hB : Region.lexB .any l.toArray = true)
    (h : wpQuiet P l.toArray (fun w' => ∃ u, w' = later w u) (fun a' => ∀ w', (∃ u, w' = later w u) → Q .normal a' w') l a) : (Code.region id l.toArray true).wp P Q a w :=
  wp_region_quiet (C := fun w' => ∃ u, w' = later w u) hm hB ⟨w.drew, later_of (Below.refl w.heap.size w).drew⟩ (by simpa using h)
theorem Calls.later_of_below {P : Program} {f : FuncId} {args : Array Value} {w u : World} {v : Value} (h : Calls P f args (later w u) fun e w' => e = .returned v ∧ Below (later w u).heap.size (later w u) w') :
    Calls P f args (later w u) fun e w' => e = .returned v ∧ ∃ u', w' = later w u' :=
  h.mono fun _ w' ⟨he, hb⟩ => ⟨he, w', later_of ((later_below w u).trans (hb.mono (later_below w u).size))⟩
theorem Calls.later_of_same {P : Program} {f : FuncId} {args : Array Value} {w u : World} {v : Value} (h : Calls P f args (later w u) fun e w' => e = .returned v ∧ w' = later w u) :
    Calls P f args (later w u) fun e w' => e = .returned v ∧ ∃ u', w' = later w u' :=
  h.mono fun _ _ ⟨he, hb⟩ => ⟨he, u, hb⟩
end Go.Proofs.Ytmhmlkdoaojimap
