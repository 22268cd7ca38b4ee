/- impl.copiedDb. -/
import Derived.Test.YtmhmlkdoaojimapKCls
import Derived.Test.YtmhmlkdoaojimapNewCop
import Derived.Test.YtmhmlkdoaojimapMrg5
import Derived.Test.YtmhmlkdoaojimapMrg8
namespace Go.Proofs.Ytmhmlkdoaojimap
open Go.RowKit

set_option maxHeartbeats 8000000 in
set_option maxRecDepth 20000 in
theorem copied_db (cs : List Cla) (xs : List ByteArray) (w : World) (c0 c1 : Value) (F : List Nat) (h : OwnClS 56 54 w cs c0 F) (hnd : F.Nodup) (hx : SsIn w xs c1) (hl1 : cs.length + claWts cs ≤ 1048576) (hl2 : xs.length + strWts xs ≤ 1048576) :
    Calls Try.prog 17 #[.agg #[c0, c1]] w fun e w' => ∃ sl F k g, e = .returned (.agg #[sl, .slice (some ⟨g, 0, none⟩) xs.length k]) ∧ OwnClS 56 54 w' cs sl F ∧ w'.ownsRow 0 9 1 (.slice (some ⟨g, 0, none⟩) xs.length k) xs.length (xs.map Value.string) ∧
      (∀ f ∈ F, w.heap.size ≤ f) ∧ F.Nodup ∧ w.heap.size ≤ g ∧ g ∉ F ∧ Below w.heap.size w w' := by
  obtain ⟨M, hM, hmk⟩ := make_strs xs.length (by omega)
  obtain ⟨W, hW⟩ : ∃ W, W = (w.alloc (.cells #[c0, c1] 29)).alloc (.cells #[.slice none 0 0, .slice none 0 0] 29) := ⟨_, rfl⟩
  have bW : Below w.heap.size w W := by rw [hW]; exact ((Below.refl _ _).alloc (Nat.le_refl _) _).alloc (by simp) _
  have lW : W.heap.size = w.heap.size + 2 := by rw [hW]; simp
  have k1 : W.heap[w.heap.size]? = some (.cells #[c0, c1] 29 (0, 0)) := by rw [hW]; exact (alloc_old _ _ (by simp)).trans (alloc_at _ _ rfl)
  have k2 : W.heap[w.heap.size + 1]? = some (.cells #[.slice none 0 0, .slice none 0 0] 29 (0, 0)) := by rw [hW]; exact alloc_at _ _ (by simp)
  have hxs := hx
  obtain ⟨a2, p2, rfl, -, -, hin⟩ := hx
  obtain ⟨a1, p1, rfl⟩ := ownClS_shape h
  have HSRC : Hid (OwnClS 56 54 w cs (.slice a1 cs.length p1) F ∧ F.Nodup ∧ cs.length + claWts cs ≤ 1048576 ∧ ∀ f ∈ F, f < w.heap.size) := ⟨h, hnd, hl1, h.lt⟩
  have HBW : Hid (Below w.heap.size w W) := bW
  have HL : Hid (W.heap.size = w.heap.size + 2) := lW
  have HK : Hid (∀ w1, Below W.heap.size W w1 → w1.heap[w.heap.size]? = some (.cells #[.slice a1 cs.length p1, .slice a2 xs.length p2] 29 (0, 0)) ∧ w1.heap[w.heap.size + 1]? = some (.cells #[.slice none 0 0, .slice none 0 0] 29 (0, 0))) := fun w1 hb => ⟨(hb.block _ (Array.getElem?_eq_some_iff.1 k1).1).trans k1, (hb.block _ (Array.getElem?_eq_some_iff.1 k2).1).trans k2⟩
  have HCL : Hid (∀ (j : Nat) (hj : j < xs.length) u, Calls Try.prog 19 #[.string xs[j]] u fun e w' => e = .returned (.string xs[j]) ∧ Below u.heap.size u w') := fun j hj u => clone_any _ u (by have := strWt_le (List.getElem_mem hj); omega)
  obtain ⟨p, hp⟩ : ∃ p, p = w.heap.size := ⟨_, rfl⟩
  rw [← hp] at HL HK
  have HPP : Hid (p = w.heap.size) := hp
  have hy := blk_cell (i := 1) (HK.out W (Below.refl _ _)).1 (by simp)
  obtain ⟨q, hq⟩ : ∃ q, q = W.heap.size := ⟨_, rfl⟩
  have HQP : Hid (q = p + 2) := hq.trans HL.out
  clear h hnd hl1 bW lW k1 k2 hxs
  go_enter Try.func17, Try.ntmps17
  go_upto_region 1 with fail
  rw [← hW, ← hp]
  clear hW hp
  go_upto_region 2 with fail
  rw [← hq]
  obtain ⟨W1, hW1⟩ : ∃ W1, W1 = W.alloc (.cells M 9) := ⟨_, rfl⟩
  rw [← hW1]
  have HB1 : Hid (Below W.heap.size W W1) := by show Below _ _ _; rw [hW1]; exact (Below.refl _ _).alloc (Nat.le_refl _) _
  have hm1 : W1.heap[q]? = some (.cells M 9 (0, 0)) := by rw [hW1, hq]; exact heap_alloc_new _ _
  clear hW1 hmk hy
  have hy := blk_cell (i := 1) (HK.out W1 HB1.out).1 (by simp)
  go_wp2
  clear hy
  have HQ2 : Hid (q = W.heap.size) := hq
  clear hq
  go_loopw [13] (fun vi wr => ∃ (j : Nat) (cur : Array Value), j ≤ xs.length ∧ vi = .int .i64 (j : Int) ∧ Hid (Below W.heap.size W wr) ∧ wr.heap[q]? = some (.cells cur 9 (0, 0)) ∧ cur.size = xs.length ∧
      Hid (cur.toList.take j = (xs.take j).map Value.string)) (fun i _ => xs.length - (intOf i).toNat)
  case atStart =>
    exact ⟨0, M, by omega, rfl, HB1.out, hm1, hM, by show _ = _; simp⟩
  case round =>
    obtain ⟨j, cur, hj, rfl, HB, hblk, hcs, HO⟩ := hrel
    by_cases hlt : j < xs.length
    · obtain ⟨b, off, rfl, hin9⟩ := hin (by intro e; subst e; simp at hlt)
      obtain ⟨hc, _⟩ := hin9 j hlt
      have hc' := cell_keep hc (HBW.out.trans (HB.out.mono HBW.out.size))
      have HTK : Hid (xs.take (j + 1) = xs.take j ++ [xs[j]]) := List.take_succ_eq_append_getElem hlt
      have HC : Hid _ := HCL.out j hlt
      have HG0 : Hid (wr.heap[q]? = _) := hblk
      clear hin9 hin hc hblk hm1
      generalize xs[j] = xj at *
      go_wp2_with (go_at_call 19; refine (Calls.mono (HC.out _) ?_); rintro e w1 ⟨rfl, hb⟩; have hg1 := (hb.block q (Array.getElem?_eq_some_iff.1 HG0.out).1).trans HG0.out; have HG : Hid (w1.heap[q]? = _) := hg1; have HBB : Hid (Below W.heap.size W w1) := HB.out.trans (hb.mono HB.out.size); clear hb; have x0 := blk_cell (i := j) hg1 (by omega); have z0 := blk_frozen hg1 j; clear hg1)
      go_roundw
      case rel =>
        refine ⟨j + 1, _, by omega, by go_num, below_set HBB.out (by have := HQ2.out; omega) _, blk_set HG.out _, by simpa using hcs, ?_⟩
        show _ = _
        rw [HTK.out, Array.toList_setIfInBounds, take_set1 (by simp; omega), HO.out]
        simp
      case measure => simp [intOf]; omega
    · obtain rfl : j = xs.length := by omega
      go_upto_region 7 with fail
      have HBR : Hid (Below w.heap.size w wr) := HBW.out.trans (HB.out.mono HBW.out.size)
      have HKR := HK.out wr HB.out
      have HST : Hid (q < wr.heap.size ∧ wr.ownsRow 0 9 1 (.slice (some ⟨q, 0, none⟩) xs.length xs.length) xs.length (xs.map Value.string)) := by
        have ho := HO.out
        rw [List.take_of_length_le (Nat.le_refl _)] at ho
        exact ⟨(Array.getElem?_eq_some_iff.1 hblk).1, by simp, Or.inr ⟨q, xs.length, cur, rfl, Nat.zero_le _, hblk, Nat.le_refl _, by unfold maxLen; omega, by simpa using hcs, by rw [Nat.mul_one]; exact ho⟩⟩
      have HKK : Hid (wr.heap[p]? = _ ∧ wr.heap[p + 1]? = _) := HKR
      clear HKR hblk hcs HO hin hm1 HCL
      refine FI.wp_region_inv 5 (fun L v u =>
        (L 0 = true → ∃ g m, v 0 = .pointer (some ⟨g, 0, none⟩) ∧ wr.heap.size ≤ g ∧ wr.heap.size ≤ m ∧ (L 3 = false → KSt u g m 0 [] (.slice none 0 0))) ∧ (L 1 = true → v 1 = .pointer (some ⟨p, 0, none⟩)) ∧ (L 2 = true → v 2 = .slice a1 cs.length p1) ∧
        (L 3 = true → ∃ F', OwnClS 56 54 u cs (v 3) F' ∧ (∀ f ∈ F', wr.heap.size ≤ f) ∧ F'.Nodup) ∧ (L 4 = true → v 4 = .slice (some ⟨q, 0, none⟩) xs.length xs.length) ∧ Below wr.heap.size wr u) (by kernel_rfl) (by kernel_rfl) 30 rfl (by kernel_rfl) ?_ ?_ ?_
      · intro vals
        exact ⟨fun h => Bool.noConfusion h, fun h => Bool.noConfusion h, fun h => Bool.noConfusion h, fun h => Bool.noConfusion h, fun h => Bool.noConfusion h, (Below.refl wr.heap.size wr).drew⟩
      · intro i o hi ho L a u hI hcl hli hfr hdep
        obtain ⟨h0, h1, h2, h3, h4, hb⟩ := hI
        have u1 : a.tmps.getD 1 undef = .pointer (some ⟨p, 0, none⟩) := hfr 1 (by decide)
        have u3 : a.tmps.getD 3 undef = .slice (some ⟨q, 0, none⟩) xs.length xs.length := hfr 3 (by decide)
        have c30 : L 3 = true → L 0 = true := fun h => hcl 3 _ rfl h 0 (by kernel_rfl)
        have hpu := (hb.block p (Array.getElem?_eq_some_iff.1 HKK.out.1).1).trans HKK.out.1
        have x0 := blk_cell (i := 0) hpu (by simp)
        match i, hi with
        | 0, _ =>
          obtain rfl : _ = o := by simpa using ho
          have h30 : L 3 = false := by cases h : L 3 with | false => rfl | true => rw [c30 h] at hli; cases hli
          refine FI.fact_call rfl rfl Try.func32 (by kernel_rfl) (by kernel_rfl) (args := #[]) (by simp) ?_
          refine Calls.mono (new_copier u) ?_
          rintro e w3 ⟨rfl, kg, km, hs3, hb3⟩
          have hsu := hb.size
          exact ⟨_, rfl, fun _ => ⟨_, _, rfl, by omega, by omega, fun _ => kst_new kg km (by omega)⟩, h1, h2, fun h => Bool.noConfusion ((show L 3 = true from h).symm.trans h30), h4, hb.trans (hb3.mono hsu)⟩
        | 1, _ =>
          obtain rfl : _ = o := by simpa using ho
          refine FI.fact_value (w' := u) (v := .pointer (some ⟨p, 0, none⟩)) rfl ?_ ⟨h0, fun _ => rfl, h2, h3, h4, hb⟩
          simp only [execOp, Act.eval, u1]
          go_simp
        | 2, _ =>
          obtain rfl : _ = o := by simpa using ho
          have y1 : a.tmps.getD 25 undef = .pointer (some ⟨p, 0, none⟩) := h1 (hdep 1 (by kernel_rfl))
          refine FI.fact_value (w' := u) (v := .slice a1 cs.length p1) rfl ?_ ⟨h0, h1, fun _ => rfl, h3, h4, hb⟩
          clear h0 h1 h2 h3 h4 hcl hdep hfr ho
          simp only [execOp, Act.eval, y1]
          go_simp
        | 3, _ =>
          obtain rfl : _ = o := by simpa using ho
          obtain ⟨g, m, v0, hg, hm, hks⟩ := h0 (hdep 0 (by kernel_rfl))
          have y0 : a.tmps.getD 24 undef = .pointer (some ⟨g, 0, none⟩) := v0
          have y2 : a.tmps.getD 26 undef = .slice a1 cs.length p1 := h2 (hdep 2 (by kernel_rfl))
          have hbu := HBR.out.trans (hb.mono HBR.out.size)
          have hwr := HBR.out.size
          obtain ⟨s1, s2, s3, s4⟩ := HSRC.out
          refine FI.fact_call rfl rfl Try.func31 (by kernel_rfl) (by kernel_rfl) (args := #[.pointer (some ⟨g, 0, none⟩), .slice a1 cs.length p1]) (by simp [Act.eval]; exact ⟨by simpa using y0, by simpa using y2⟩) ?_
          refine Calls.mono (copied_clauses cs u _ F g m s3 (s1.keep fun f hf => hbu.block f (s4 f hf)) s2 (hks hli) (fun f hf => by have := s4 f hf; exact ⟨by omega, by omega⟩)) ?_
          rintro e w3 ⟨sl, F', rfl, o1, o2, o3, ho4⟩
          have hsu := hb.size
          exact ⟨_, rfl, fun _ => ⟨g, m, v0, hg, hm, fun h => Bool.noConfusion (show true = false from h)⟩, h1, h2, fun _ => ⟨F', o1, fun f hf => by have := o2 f hf; omega, o3⟩, h4, hb.trans (ho4.below (by intro f hf; simp at hf; rcases hf with rfl | rfl <;> omega) hsu)⟩
        | 4, _ =>
          obtain rfl : _ = o := by simpa using ho
          refine FI.fact_value (w' := u) (v := .slice (some ⟨q, 0, none⟩) xs.length xs.length) rfl ?_ ⟨h0, h1, h2, h3, fun _ => rfl, hb⟩
          simp only [execOp, Act.eval, u3]
          go_simp
      intro L vals w6 hall hI
      obtain ⟨_, _, _, h3, h4, hb⟩ := hI
      obtain ⟨F', o1, o2, o3⟩ := h3 (hall 3 (by omega))
      obtain ⟨a3, p3, e3⟩ := ownClS_shape o1
      have e4 := h4 (hall 4 (by omega))
      rw [e3] at o1
      simp only [FZ.putN, List.getElem?_toArray, List.getElem?_cons_zero, List.getElem?_cons_succ, Option.bind_some, List.drop_succ_cons, List.drop_zero, e3, e4]
      generalize vals 0 = m0
      generalize vals 1 = m1
      generalize vals 2 = m2
      simp only [Act.put, List.setIfInBounds_toArray, List.set_cons_succ, List.set_cons_zero]
      have hk2 := (hb.block (p + 1) (Array.getElem?_eq_some_iff.1 HKK.out.2).1).trans HKK.out.2
      have hq6 := hb.block q HST.out.1
      have HFIN : Hid (∀ V, V = (w6.setCell ⟨p + 1, 0, none⟩ (.slice a3 cs.length p3)).setCell ⟨p + 1, 1, none⟩ (.slice (some ⟨q, 0, none⟩) xs.length xs.length) → V.heap[p + 1]? = some (.cells #[.slice a3 cs.length p3, .slice (some ⟨q, 0, none⟩) xs.length xs.length] 29 (0, 0)) ∧
          OwnClS 56 54 V cs (.slice a3 cs.length p3) F' ∧ V.ownsRow 0 9 1 (.slice (some ⟨q, 0, none⟩) xs.length xs.length) xs.length (xs.map Value.string) ∧ (∀ f ∈ F', p ≤ f) ∧ F'.Nodup ∧ p ≤ q ∧ q ∉ F' ∧ Below p w V) := by
        rintro V rfl
        have hqp := HQP.out
        have hqs := HST.out.1
        have hpp := HPP.out
        have hbw := HBR.out.trans (hb.mono HBR.out.size)
        rw [← hpp] at hbw
        refine ⟨by simpa using blk_set (i := 1) (blk_set (i := 0) hk2 (.slice a3 cs.length p3)) (.slice (some ⟨q, 0, none⟩) xs.length xs.length), OwnClS.keep o1 fun f hf => ?_, row_keep HST.out.2 ?_, fun f hf => by have := o2 f hf; omega, o3, by omega, fun hf => by have := o2 q hf; omega, below_set (below_set hbw (by omega) _) (by omega) _⟩
        · have h1 := o2 f hf
          rw [blk_other _ (by omega), blk_other _ (by omega)]
        · rw [blk_other _ (by omega), blk_other _ (by omega)]
          exact hq6
      have y0 := blk_cell (i := 0) hk2 (by simp)
      have y1 := blk_cell (i := 1) hk2 (by simp)
      have f0 := blk_frozen hk2 0
      have f1 := blk_frozen hk2 1
      clear hk2 hq6 h3 h4 hb o1 o2 o3 e3 e4 hall
      go_wp2
      obtain ⟨r1, r2⟩ := HFIN.out _ rfl
      refine bodyPost_ret_by (results_cell_row rfl _ _ (p + 1) 29 _ (0, 0) _ rfl r1 Try.underlying29 rfl (by kernel_rfl)) rfl ?_
      exact ⟨_, F', _, q, rfl, by simpa only [HPP.out] using r2⟩
end Go.Proofs.Ytmhmlkdoaojimap
