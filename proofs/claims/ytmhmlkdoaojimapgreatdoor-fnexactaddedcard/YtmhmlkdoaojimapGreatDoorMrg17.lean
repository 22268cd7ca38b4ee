/- Four texts in one. -/
import Derived.Test.YtmhmlkdoaojimapGreatDoorMrg6
import Derived.Test.YtmhmlkdoaojimapGreatDoorMrg16
/- Rows of strings, and the two cells of a Db. -/
namespace Go.Proofs.YtmhmlkdoaojimapGreatDoor
open Go.RowKit

theorem strWt_le {xs : List ByteArray} {x : ByteArray} (h : x ∈ xs) : x.size ≤ strWts xs := by
  induction xs with
  | nil => cases h
  | cons a r ih =>
    simp only [strWts]
    rcases List.mem_cons.1 h with rfl | h
    · omega
    · have := ih h; omega

theorem owns_ss {w : World} {sl : Value} {xs : List ByteArray} (h : w.ownsRow 0 9 1 sl xs.length (xs.map Value.string)) (hs : ∀ x ∈ xs, x.size ≤ maxLen) : SsIn w xs sl := by
  rcases h.2 with ⟨rfl, hl⟩ | ⟨g, cap, cur, rfl, _, hh, hnc, hcm, hcs, htk⟩
  · exact ⟨none, 0, by rw [hl], by omega, by unfold maxLen; omega, fun hne => absurd (List.eq_nil_of_length_eq_zero hl) hne⟩
  · refine ⟨_, cap, rfl, hnc, hcm, fun _ => ⟨g, 0, rfl, fun j hj => ⟨?_, hs _ (List.getElem_mem hj)⟩⟩⟩
    rw [Nat.zero_add]
    refine cell_of_row hh ?_
    have h1 : (xs.map Value.string)[j]? = some (.string xs[j]) := by simp [hj]
    rw [← htk, List.getElem?_take] at h1
    split at h1
    · simpa using h1
    · cases h1

theorem ownsRow_zero {w : World} {B e size n : Nat} {v : Value} {xs : List Value} (h : w.ownsRow B e size v n xs) : w.ownsRow 0 e size v n xs := by
  rcases h.2 with ⟨rfl, hl⟩ | ⟨g, cap, cur, rfl, _, hh⟩
  · exact ⟨h.1, Or.inl ⟨rfl, hl⟩⟩
  · exact ⟨h.1, Or.inr ⟨g, cap, cur, rfl, Nat.zero_le _, hh⟩⟩
theorem db_two {w1 : World} {p : Nat} {a b : Value} (hk : w1.heap[p]? = some (.cells #[.slice none 0 0, .slice none 0 0] 35 (0, 0))) : ((w1.setCell ⟨p, 0, none⟩ a).setCell ⟨p, 1, none⟩ b).heap[p]? = some (.cells #[a, b] 35 (0, 0)) := by
  simpa using blk_set (i := 1) (blk_set (i := 0) hk a) b

/-- the clauses and names that come back, in memory of their own -/
def DbOut (w : World) (cs : List Cla) (xs : List ByteArray) (e : Ending) (w' : World) : Prop :=
  ∃ sl F k g, e = .returned (.agg #[sl, .slice (some ⟨g, 0, none⟩) xs.length k]) ∧ OwnClS 43 41 w' cs sl F ∧ w'.ownsRow 0 9 1 (.slice (some ⟨g, 0, none⟩) xs.length k) xs.length (xs.map Value.string) ∧
      (∀ f ∈ F, w.heap.size ≤ f) ∧ F.Nodup ∧ w.heap.size ≤ g ∧ g ∉ F ∧ Below w.heap.size w w'

end Go.Proofs.YtmhmlkdoaojimapGreatDoor

/- impl.copiedDb. -/
namespace Go.Proofs.YtmhmlkdoaojimapGreatDoor
open Go.RowKit

set_option maxHeartbeats 8000000 in
set_option maxRecDepth 20000 in
theorem copied_db (cs : List Cla) (xs : List ByteArray) (w : World) (c0 c1 : Value) (F : List Nat) (h : OwnClS 43 41 w cs c0 F) (hnd : F.Nodup) (hx : SsIn w xs c1) (hl1 : cs.length + claWts cs ≤ 1048576) (hl2 : xs.length + strWts xs ≤ 1048576) :
    Calls Tryz.prog 25 #[.agg #[c0, c1]] w fun e w' => ∃ sl F k g, e = .returned (.agg #[sl, .slice (some ⟨g, 0, none⟩) xs.length k]) ∧ OwnClS 43 41 w' cs sl F ∧ w'.ownsRow 0 9 1 (.slice (some ⟨g, 0, none⟩) xs.length k) xs.length (xs.map Value.string) ∧
      (∀ f ∈ F, w.heap.size ≤ f) ∧ F.Nodup ∧ w.heap.size ≤ g ∧ g ∉ F ∧ Below w.heap.size w w' := by
  obtain ⟨M, hM, hmk⟩ := make_strs xs.length (by omega)
  obtain ⟨W, hW⟩ : ∃ W, W = (w.alloc (.cells #[c0, c1] 35)).alloc (.cells #[.slice none 0 0, .slice none 0 0] 35) := ⟨_, rfl⟩
  have bW : Below w.heap.size w W := by rw [hW]; exact ((Below.refl _ _).alloc (Nat.le_refl _) _).alloc (by simp) _
  have lW : W.heap.size = w.heap.size + 2 := by rw [hW]; simp
  have k1 : W.heap[w.heap.size]? = some (.cells #[c0, c1] 35 (0, 0)) := by rw [hW]; exact (alloc_old _ _ (by simp)).trans (alloc_at _ _ rfl)
  have k2 : W.heap[w.heap.size + 1]? = some (.cells #[.slice none 0 0, .slice none 0 0] 35 (0, 0)) := by rw [hW]; exact alloc_at _ _ (by simp)
  have hxs := hx
  obtain ⟨a2, p2, rfl, -, -, hin⟩ := hx
  obtain ⟨a1, p1, rfl⟩ := ownClS_shape h
  have HSRC : Hid (OwnClS 43 41 w cs (.slice a1 cs.length p1) F ∧ F.Nodup ∧ cs.length + claWts cs ≤ 1048576 ∧ ∀ f ∈ F, f < w.heap.size) := ⟨h, hnd, hl1, h.lt⟩
  have HBW : Hid (Below w.heap.size w W) := bW
  have HL : Hid (W.heap.size = w.heap.size + 2) := lW
  have HK : Hid (∀ w1, Below W.heap.size W w1 → w1.heap[w.heap.size]? = some (.cells #[.slice a1 cs.length p1, .slice a2 xs.length p2] 35 (0, 0)) ∧ w1.heap[w.heap.size + 1]? = some (.cells #[.slice none 0 0, .slice none 0 0] 35 (0, 0))) := fun w1 hb => ⟨(hb.block _ (Array.getElem?_eq_some_iff.1 k1).1).trans k1, (hb.block _ (Array.getElem?_eq_some_iff.1 k2).1).trans k2⟩
  have HCL : Hid (∀ (j : Nat) (hj : j < xs.length) u, Calls Tryz.prog 44 #[.string xs[j]] u fun e w' => e = .returned (.string xs[j]) ∧ Below u.heap.size u w') := fun j hj u => clone_any _ u (by have := strWt_le (List.getElem_mem hj); omega)
  obtain ⟨p, hp⟩ : ∃ p, p = w.heap.size := ⟨_, rfl⟩
  rw [← hp] at HL HK
  have HPP : Hid (p = w.heap.size) := hp
  have hy := blk_cell (i := 1) (HK.out W (Below.refl _ _)).1 (by simp)
  obtain ⟨q, hq⟩ : ∃ q, q = W.heap.size := ⟨_, rfl⟩
  have HQP : Hid (q = p + 2) := hq.trans HL.out
  clear h hnd hl1 bW lW k1 k2 hxs
  go_enter Tryz.func25, Tryz.ntmps25
  go_upto_region 1 with fail
  rw [← hW, ← hp]
  clear hW hp
  go_upto_region 2 with fail
  rw [← hq]
  obtain ⟨W1, hW1⟩ : ∃ W1, W1 = W.alloc (.cells M 9) := ⟨_, rfl⟩
  rw [← hW1]
  have HB1 : Hid (Below W.heap.size W W1) := by show Below _ _ _; rw [hW1]; exact (Below.refl _ _).alloc (Nat.le_refl _) _
  have hm1 : W1.heap[q]? = some (.cells M 9 (0, 0)) := by rw [hW1, hq]; exact heap_alloc_new _ _
  clear hW1 hmk hy
  have hy := blk_cell (i := 1) (HK.out W1 HB1.out).1 (by simp)
  go_wp2
  clear hy
  have HQ2 : Hid (q = W.heap.size) := hq
  clear hq
  go_loopw [13] (fun vi wr => ∃ (j : Nat) (cur : Array Value), j ≤ xs.length ∧ vi = .int .i64 (j : Int) ∧ Hid (Below W.heap.size W wr) ∧ wr.heap[q]? = some (.cells cur 9 (0, 0)) ∧ cur.size = xs.length ∧
      Hid (cur.toList.take j = (xs.take j).map Value.string)) (fun i _ => xs.length - (intOf i).toNat)
  case atStart =>
    exact ⟨0, M, by omega, rfl, HB1.out, hm1, hM, by show _ = _; simp⟩
  case round =>
    obtain ⟨j, cur, hj, rfl, HB, hblk, hcs, HO⟩ := hrel
    by_cases hlt : j < xs.length
    · obtain ⟨b, off, rfl, hin9⟩ := hin (by intro e; subst e; simp at hlt)
      obtain ⟨hc, _⟩ := hin9 j hlt
      have hc' := cell_keep hc (HBW.out.trans (HB.out.mono HBW.out.size))
      have HTK : Hid (xs.take (j + 1) = xs.take j ++ [xs[j]]) := List.take_succ_eq_append_getElem hlt
      have HC : Hid _ := HCL.out j hlt
      have HG0 : Hid (wr.heap[q]? = _) := hblk
      clear hin9 hin hc hblk hm1
      generalize xs[j] = xj at *
      go_wp2_with (go_at_call 44; refine (Calls.mono (HC.out _) ?_); rintro e w1 ⟨rfl, hb⟩; have hg1 := (hb.block q (Array.getElem?_eq_some_iff.1 HG0.out).1).trans HG0.out; have HG : Hid (w1.heap[q]? = _) := hg1; have HBB : Hid (Below W.heap.size W w1) := HB.out.trans (hb.mono HB.out.size); clear hb; have x0 := blk_cell (i := j) hg1 (by omega); have z0 := blk_frozen hg1 j; clear hg1)
      go_roundw
      case rel =>
        refine ⟨j + 1, _, by omega, by go_num, below_set HBB.out (by have := HQ2.out; omega) _, blk_set HG.out _, by simpa using hcs, ?_⟩
        show _ = _
        rw [HTK.out, Array.toList_setIfInBounds, take_set1 (by simp; omega), HO.out]
        simp
      case measure => simp [intOf]; omega
    · obtain rfl : j = xs.length := by omega
      go_upto_region 7 with fail
      have HBR : Hid (Below w.heap.size w wr) := HBW.out.trans (HB.out.mono HBW.out.size)
      have HKR := HK.out wr HB.out
      have HST : Hid (q < wr.heap.size ∧ wr.ownsRow 0 9 1 (.slice (some ⟨q, 0, none⟩) xs.length xs.length) xs.length (xs.map Value.string)) := by
        have ho := HO.out
        rw [List.take_of_length_le (Nat.le_refl _)] at ho
        exact ⟨(Array.getElem?_eq_some_iff.1 hblk).1, by simp, Or.inr ⟨q, xs.length, cur, rfl, Nat.zero_le _, hblk, Nat.le_refl _, by unfold maxLen; omega, by simpa using hcs, by rw [Nat.mul_one]; exact ho⟩⟩
      have HKK : Hid (wr.heap[p]? = _ ∧ wr.heap[p + 1]? = _) := HKR
      clear HKR hblk hcs HO hin hm1 HCL
      refine FI.wp_region_inv 5 (fun L v u =>
        (L 0 = true → ∃ g m, v 0 = .pointer (some ⟨g, 0, none⟩) ∧ wr.heap.size ≤ g ∧ wr.heap.size ≤ m ∧ (L 3 = false → KSt u g m 0 [] (.slice none 0 0))) ∧ (L 1 = true → v 1 = .pointer (some ⟨p, 0, none⟩)) ∧ (L 2 = true → v 2 = .slice a1 cs.length p1) ∧
        (L 3 = true → ∃ F', OwnClS 43 41 u cs (v 3) F' ∧ (∀ f ∈ F', wr.heap.size ≤ f) ∧ F'.Nodup) ∧ (L 4 = true → v 4 = .slice (some ⟨q, 0, none⟩) xs.length xs.length) ∧ Below wr.heap.size wr u) (by kernel_rfl) (by kernel_rfl) 30 rfl (by kernel_rfl) ?_ ?_ ?_
      · intro vals
        exact ⟨fun h => Bool.noConfusion h, fun h => Bool.noConfusion h, fun h => Bool.noConfusion h, fun h => Bool.noConfusion h, fun h => Bool.noConfusion h, (Below.refl wr.heap.size wr).drew⟩
      · intro i o hi ho L a u hI hcl hli hfr hdep
        obtain ⟨h0, h1, h2, h3, h4, hb⟩ := hI
        have u1 : a.tmps.getD 1 undef = .pointer (some ⟨p, 0, none⟩) := hfr 1 (by decide)
        have u3 : a.tmps.getD 3 undef = .slice (some ⟨q, 0, none⟩) xs.length xs.length := hfr 3 (by decide)
        have c30 : L 3 = true → L 0 = true := fun h => hcl 3 _ rfl h 0 (by kernel_rfl)
        have hpu := (hb.block p (Array.getElem?_eq_some_iff.1 HKK.out.1).1).trans HKK.out.1
        have x0 := blk_cell (i := 0) hpu (by simp)
        match i, hi with
        | 0, _ =>
          obtain rfl : _ = o := by simpa using ho
          have h30 : L 3 = false := by cases h : L 3 with | false => rfl | true => rw [c30 h] at hli; cases hli
          refine FI.fact_call rfl rfl Tryz.func46 (by kernel_rfl) (by kernel_rfl) (args := #[]) (by simp) ?_
          refine Calls.mono (new_copier u) ?_
          rintro e w3 ⟨rfl, kg, km, hs3, hb3⟩
          have hsu := hb.size
          exact ⟨_, rfl, fun _ => ⟨_, _, rfl, by omega, by omega, fun _ => kst_new kg km (by omega)⟩, h1, h2, fun h => Bool.noConfusion ((show L 3 = true from h).symm.trans h30), h4, hb.trans (hb3.mono hsu)⟩
        | 1, _ =>
          obtain rfl : _ = o := by simpa using ho
          refine FI.fact_value (w' := u) (v := .pointer (some ⟨p, 0, none⟩)) rfl ?_ ⟨h0, fun _ => rfl, h2, h3, h4, hb⟩
          simp only [execOp, Act.eval, u1]
          go_simp
        | 2, _ =>
          obtain rfl : _ = o := by simpa using ho
          have y1 : a.tmps.getD 25 undef = .pointer (some ⟨p, 0, none⟩) := h1 (hdep 1 (by kernel_rfl))
          refine FI.fact_value (w' := u) (v := .slice a1 cs.length p1) rfl ?_ ⟨h0, h1, fun _ => rfl, h3, h4, hb⟩
          clear h0 h1 h2 h3 h4 hcl hdep hfr ho
          simp only [execOp, Act.eval, y1]
          go_simp
        | 3, _ =>
          obtain rfl : _ = o := by simpa using ho
          obtain ⟨g, m, v0, hg, hm, hks⟩ := h0 (hdep 0 (by kernel_rfl))
          have y0 : a.tmps.getD 24 undef = .pointer (some ⟨g, 0, none⟩) := v0
          have y2 : a.tmps.getD 26 undef = .slice a1 cs.length p1 := h2 (hdep 2 (by kernel_rfl))
          have hbu := HBR.out.trans (hb.mono HBR.out.size)
          have hwr := HBR.out.size
          obtain ⟨s1, s2, s3, s4⟩ := HSRC.out
          refine FI.fact_call rfl rfl Tryz.func45 (by kernel_rfl) (by kernel_rfl) (args := #[.pointer (some ⟨g, 0, none⟩), .slice a1 cs.length p1]) (by simp [Act.eval]; exact ⟨by simpa using y0, by simpa using y2⟩) ?_
          refine Calls.mono (copied_clauses cs u _ F g m s3 (s1.keep fun f hf => hbu.block f (s4 f hf)) s2 (hks hli) (fun f hf => by have := s4 f hf; exact ⟨by omega, by omega⟩)) ?_
          rintro e w3 ⟨sl, F', rfl, o1, o2, o3, ho4⟩
          have hsu := hb.size
          exact ⟨_, rfl, fun _ => ⟨g, m, v0, hg, hm, fun h => Bool.noConfusion (show true = false from h)⟩, h1, h2, fun _ => ⟨F', o1, fun f hf => by have := o2 f hf; omega, o3⟩, h4, hb.trans (ho4.below (by intro f hf; simp at hf; rcases hf with rfl | rfl <;> omega) hsu)⟩
        | 4, _ =>
          obtain rfl : _ = o := by simpa using ho
          refine FI.fact_value (w' := u) (v := .slice (some ⟨q, 0, none⟩) xs.length xs.length) rfl ?_ ⟨h0, h1, h2, h3, fun _ => rfl, hb⟩
          simp only [execOp, Act.eval, u3]
          go_simp
      intro L vals w6 hall hI
      obtain ⟨_, _, _, h3, h4, hb⟩ := hI
      obtain ⟨F', o1, o2, o3⟩ := h3 (hall 3 (by omega))
      obtain ⟨a3, p3, e3⟩ := ownClS_shape o1
      have e4 := h4 (hall 4 (by omega))
      rw [e3] at o1
      simp only [FZ.putN, List.getElem?_toArray, List.getElem?_cons_zero, List.getElem?_cons_succ, Option.bind_some, List.drop_succ_cons, List.drop_zero, e3, e4]
      generalize vals 0 = m0
      generalize vals 1 = m1
      generalize vals 2 = m2
      simp only [Act.put, List.setIfInBounds_toArray, List.set_cons_succ, List.set_cons_zero]
      have hk2 := (hb.block (p + 1) (Array.getElem?_eq_some_iff.1 HKK.out.2).1).trans HKK.out.2
      have hq6 := hb.block q HST.out.1
      have HFIN : Hid (∀ V, V = (w6.setCell ⟨p + 1, 0, none⟩ (.slice a3 cs.length p3)).setCell ⟨p + 1, 1, none⟩ (.slice (some ⟨q, 0, none⟩) xs.length xs.length) → V.heap[p + 1]? = some (.cells #[.slice a3 cs.length p3, .slice (some ⟨q, 0, none⟩) xs.length xs.length] 35 (0, 0)) ∧
          OwnClS 43 41 V cs (.slice a3 cs.length p3) F' ∧ V.ownsRow 0 9 1 (.slice (some ⟨q, 0, none⟩) xs.length xs.length) xs.length (xs.map Value.string) ∧ (∀ f ∈ F', p ≤ f) ∧ F'.Nodup ∧ p ≤ q ∧ q ∉ F' ∧ Below p w V) := by
        rintro V rfl
        have hqp := HQP.out
        have hqs := HST.out.1
        have hpp := HPP.out
        have hbw := HBR.out.trans (hb.mono HBR.out.size)
        rw [← hpp] at hbw
        refine ⟨by simpa using blk_set (i := 1) (blk_set (i := 0) hk2 (.slice a3 cs.length p3)) (.slice (some ⟨q, 0, none⟩) xs.length xs.length), OwnClS.keep o1 fun f hf => ?_, row_keep HST.out.2 ?_, fun f hf => by have := o2 f hf; omega, o3, by omega, fun hf => by have := o2 q hf; omega, below_set (below_set hbw (by omega) _) (by omega) _⟩
        · have h1 := o2 f hf
          rw [blk_other _ (by omega), blk_other _ (by omega)]
        · rw [blk_other _ (by omega), blk_other _ (by omega)]
          exact hq6
      have y0 := blk_cell (i := 0) hk2 (by simp)
      have y1 := blk_cell (i := 1) hk2 (by simp)
      have f0 := blk_frozen hk2 0
      have f1 := blk_frozen hk2 1
      clear hk2 hq6 h3 h4 hb o1 o2 o3 e3 e4 hall
      go_wp2
      obtain ⟨r1, r2⟩ := HFIN.out _ rfl
      refine bodyPost_ret_by (results_cell_row rfl _ _ (p + 1) 35 _ (0, 0) _ rfl r1 Tryz.underlying35 rfl (by kernel_rfl)) rfl ?_
      exact ⟨_, F', _, q, rfl, by simpa only [HPP.out] using r2⟩
end Go.Proofs.YtmhmlkdoaojimapGreatDoor

/- impl.copiedClauses by a new copier, the bounds apart. -/
namespace Go.Proofs.YtmhmlkdoaojimapGreatDoor
open Go.RowKit

set_option maxHeartbeats 8000000 in
set_option maxRecDepth 20000 in
theorem copied_clausesG (ks : List Cla) (w : World) (sl : Value) (F : List Nat) (gc m : Nat) (hlen : ks.length ≤ 1048576) (hlen2 : claWts ks + 2 * ks.length ≤ 2097152) (hlen3 : ∀ c ∈ ks, c.wt ≤ 1048576) (h : OwnClS 43 41 w ks sl F) (hnd : F.Nodup) (hst : KSt w gc m 0 [] (.slice none 0 0)) (hF : ∀ f ∈ F, f ≠ gc ∧ f ≠ m) :
    Calls Tryz.prog 45 #[.pointer (some ⟨gc, 0, none⟩), sl] w fun e w' => ∃ sl F, e = .returned sl ∧ OwnClS 43 41 w' ks sl F ∧ (∀ f ∈ F, w.heap.size ≤ f) ∧ F.Nodup ∧ Out [gc, m] w w' := by
  obtain ⟨M, hM, hmk⟩ := make_clauses ks.length (by omega)
  have hlt := h.lt
  have hkl := hst.lt
  have hgl := hkl gc (Or.inl rfl)
  have hml := hkl m (Or.inr (Or.inl rfl))
  obtain ⟨g, cap, G, hsl, HSRC⟩ : ∃ (g cap : Nat) (G : Nat → List Nat), (ks ≠ [] → sl = .slice (some ⟨g, 0, none⟩) ks.length cap) ∧ (∀ j (hj : j < ks.length), ∃ cur cc, w.heap[g]? = some (.cells cur 43 (0, 0)) ∧ g < w.heap.size ∧ g ≠ gc ∧ g ≠ m ∧ (∀ i, i < 9 → cur[j * 9 + i]? = cc[i]?) ∧ OwnC 41 w ks[j] cc (G j) ∧ (G j).Nodup ∧ (∀ f ∈ G j, f ≠ gc ∧ f ≠ m ∧ f < w.heap.size) ∧ (∀ i, i < j → ∀ f ∈ G i, f ∉ G j)) := by
    rcases h with ⟨rfl, rfl, rfl⟩ | ⟨g, cap, cs, F', rfl, h5, rfl, h6⟩
    · exact ⟨0, 0, fun _ => [], fun h => absurd rfl h, fun j hj => by simp at hj⟩
    · obtain ⟨G, g1, g2, g3⟩ := OwnCs.parts h6 (List.nodup_cons.1 hnd).2
      refine ⟨g, cap, G, fun _ => rfl, fun j hj => ?_⟩
      obtain ⟨hl, h5⟩ := h5
      rcases h5 with ⟨h5, _⟩ | ⟨g', cap', cur, e', _, hblk, hc1, hc2, hc3, hc4⟩
      · cases h5
      · simp only [Value.slice.injEq, Option.some.injEq, Addr.mk.injEq, and_true, true_and] at e'
        obtain ⟨rfl, rfl⟩ := e'
        have hg9 := hF g (by simp)
        refine ⟨cur, _, hblk, (Array.getElem?_eq_some_iff.1 hblk).1, hg9.1, hg9.2, fun i hi => ?_, g1 j hj, (g2 j hj).2, fun f hf => ?_, fun i hi => g3 i j hi hj⟩
        · have hl6 := OwnCs.len _ _ _ h6
          rw [List.getElem?_take, if_pos hi, List.getElem?_drop, ← hc4, List.getElem?_take, if_pos (by omega)]
          simp
        · have h9 := List.mem_cons_of_mem g ((g2 j hj).1 f hf)
          exact ⟨(hF f h9).1, (hF f h9).2, hlt f h9⟩
  obtain ⟨ao, cp, rfl⟩ := ownClS_shape h
  have HS0 : Hid (CcSt gc m ks G w.heap.size 0 w) := ⟨0, [], _, hst, by omega, fun d hd => (by cases hd), fun z hz => (by cases hz)⟩
  have HSR : Hid _ := HSRC
  have HGM : Hid (gc < w.heap.size ∧ m < w.heap.size) := ⟨hgl, hml⟩
  clear h hnd hst hF hlt hkl hgl hml HSRC
  go_enter Tryz.func45, Tryz.ntmps45
  go_wp2
  clear hmk
  go_loopw [13] (fun vi wr => ∃ (j : Nat) (cur : Array Value) (F : List Nat), j ≤ ks.length ∧ vi = .int .i64 (j : Int) ∧ Hid (Out [gc, m] w wr) ∧ wr.heap[w.heap.size]? = some (.cells cur 43 (0, 0)) ∧ cur.size = ks.length * 9 ∧
      Hid (OwnCs 41 wr (ks.take j) (cur.toList.take (j * 9)) F ∧ (∀ f ∈ F, w.heap.size < f) ∧ F.Nodup ∧ ∃ T D osl, KSt wr gc m T D osl ∧ T ≤ claWts (ks.take j) + 2 * j ∧ (∀ d ∈ D, (∃ i, i < j ∧ d ∈ G i) ∨ w.heap.size < d) ∧ (∀ z, osl.ownBlock = some z → w.heap.size < z ∧ z ∉ F))) (fun i _ => ks.length - (intOf i).toNat)
  case atStart =>
    obtain ⟨T, D, osl, q1, q2, q3, q4⟩ := HS0.out
    refine ⟨0, M, [], by omega, rfl, Out.of_below ((Below.refl _ _).alloc (Nat.le_refl _) _), by rw [heap_alloc_new], hM, ?_⟩
    exact ⟨by simp [OwnCs], by simp, by simp, T, D, osl, q1.keep ((Below.refl _ _).alloc (Nat.le_refl _) _), q2, q3, fun z hz => ⟨q4 z hz, by simp⟩⟩
  case round =>
    obtain ⟨j, cur, F, hj, rfl, HB, hblk, hcs, HO⟩ := hrel
    by_cases hlt : j < ks.length
    · obtain ⟨scur, cc, s1, s2, s3, s4, s5, s6, s7, s8, s9⟩ := HSR.out j hlt
      have hsl' := hsl (by intro e; subst e; simp at hlt)
      obtain ⟨rfl, rfl⟩ : ao = some ⟨g, 0, none⟩ ∧ cp = cap := by simpa using hsl'
      obtain ⟨k1, t1, n1, a1, l1, m1, k2, t2, n2, a2, l2, m2, F1, F2, rfl, hFF, hf, o1, o2⟩ := s6
      have hgb := (HB.out.block g s2 (by simp [s3, s4])).trans s1
      have x0 := cell_of_row (i := j * 9) hgb ((s5 0 (by omega)).trans rfl)
      have x1 := cell_of_row (i := j * 9 + 1) hgb ((s5 1 (by omega)).trans rfl)
      have x2 := cell_of_row (i := j * 9 + 2) hgb ((s5 2 (by omega)).trans rfl)
      have x3 := cell_of_row (i := j * 9 + 3) hgb ((s5 3 (by omega)).trans rfl)
      have x4 := cell_of_row (i := j * 9 + 4) hgb ((s5 4 (by omega)).trans rfl)
      have x5 := cell_of_row (i := j * 9 + 5) hgb ((s5 5 (by omega)).trans rfl)
      have x6 := cell_of_row (i := j * 9 + 6) hgb ((s5 6 (by omega)).trans rfl)
      have x7 := cell_of_row (i := j * 9 + 7) hgb ((s5 7 (by omega)).trans rfl)
      have x8 := cell_of_row (i := j * 9 + 8) hgb ((s5 8 (by omega)).trans rfl)
      have HBLK : Hid (wr.heap[w.heap.size]? = _ ∧ w.heap.size < wr.heap.size) := ⟨hblk, (Array.getElem?_eq_some_iff.1 hblk).1⟩
      obtain ⟨r1, r2, r3, T, D, osl, hk, hT, hD, hz⟩ := HO.out
      have hgm := HGM.out
      have hwj := claWts_take_succ hlt
      have hwl := claWts_take_le ks (j + 1)
      have hlt1 := OwnCs.lt _ _ _ r1
      obtain ⟨U, hU⟩ : ∃ U, U = wr.alloc (.cells #[.int .i64 k1, .string t1, .int .i64 n1, .slice a1 l1 m1, .int .i64 k2, .string t2, .int .i64 n2, .slice a2 l2 m2, .string ks[j].f] 43) := ⟨_, rfl⟩
      have bU : Below wr.heap.size wr U := by rw [hU]; exact (Below.refl _ _).alloc (Nat.le_refl _) _
      have hsU : U.heap.size = wr.heap.size + 1 := by rw [hU]; simp
      have hso := HB.out.size
      have hg0 := HBLK.out.2
      have oc : OwnC 41 U ks[j] [.int .i64 k1, .string t1, .int .i64 n1, .slice a1 l1 m1, .int .i64 k2, .string t2, .int .i64 n2, .slice a2 l2 m2, .string ks[j].f] (G j) :=
        OwnC.keep ⟨k1, t1, n1, a1, l1, m1, k2, t2, n2, a2, l2, m2, F1, F2, rfl, hFF, hf, o1, o2⟩ fun f hf9 => by
          have h9 := s8 f hf9
          exact (bU.block f (by omega)).trans (HB.out.block f h9.2.2 (by simp [h9.1, h9.2.1]))
      have hw3 := hlen3 _ (List.getElem_mem hlt)
      have HC0 := copied_any ks[j] _ (G j) U gc m T D osl oc s7 hw3 (hk.keep bU) (by omega) (fun f hf9 => by
        have h9 := s8 f hf9
        refine ⟨h9.1, h9.2.1, fun e => by have := hz f e; omega, fun h => ?_⟩
        rcases hD f h with ⟨i, hi, h⟩ | h
        · exact s9 i hi f h hf9
        · omega)
      have HPOST : Hid (∀ e w1, CcPost T D osl gc m ks[j] (G j) U e w1 → ∃ k s n ao l c k' s' n' ao' l' c' F', e = .returned (.agg #[.int .i64 k, .string s, .int .i64 n, .slice ao l c, .int .i64 k', .string s', .int .i64 n', .slice ao' l' c', .string ks[j].f]) ∧ w1.heap[w.heap.size]? = some (.cells cur 43 (0, 0)) ∧
          OwnC 41 w1 ks[j] [.int .i64 k, .string s, .int .i64 n, .slice ao l c, .int .i64 k', .string s', .int .i64 n', .slice ao' l' c', .string ks[j].f] F' ∧ OwnCs 41 w1 (ks.take j) (cur.toList.take (j * 9)) F ∧ (∀ f ∈ F ++ F', w.heap.size < f) ∧ (F ++ F').Nodup ∧ Out [gc, m] w w1 ∧
          ∃ T D osl, KSt w1 gc m T D osl ∧ T ≤ claWts (ks.take (j + 1)) + 2 * (j + 1) ∧ (∀ d ∈ D, (∃ i, i < j + 1 ∧ d ∈ G i) ∨ w.heap.size < d) ∧ (∀ z, osl.ownBlock = some z → w.heap.size < z ∧ z ∉ F ++ F')) := by
        rintro e w1 ⟨cs', F', T1, D1, osl1, rfl, oc1, f1, nd1, ho, hk1, hT1, hD1, hz1⟩
        have hkp : ∀ k, k < wr.heap.size → k ≠ gc → k ≠ m → osl.ownBlock ≠ some k → w1.heap[k]? = wr.heap[k]? := fun k hk1 hk2 hk3 hk4 =>
          (ho.block k (by omega) (by simp [hk2, hk3]; exact hk4)).trans (bU.block k hk1)
        have hso1 := ho.size
        have ow1 : OwnCs 41 w1 (ks.take j) (cur.toList.take (j * 9)) F := OwnCs.keep _ _ _ r1 fun f hf9 => hkp f (hlt1 f hf9) (by have := r2 f hf9; omega) (by have := r2 f hf9; omega) (fun e => (hz f e).2 hf9)
        obtain ⟨k, s, n, ao, l, c, k', s', n', ao', l', c', G1, G2, rfl, hGG, hf', p1, p2⟩ := oc1
        refine ⟨k, s, n, ao, l, c, k', s', n', ao', l', c', F', rfl, (hkp _ hg0 (by omega) (by omega) (fun e => by have := (hz _ e).1; omega)).trans HBLK.out.1, ⟨k, s, n, ao, l, c, k', s', n', ao', l', c', G1, G2, rfl, hGG, hf', p1, p2⟩, ow1, fun f hf9 => ?_, List.nodup_append.2 ⟨r3, nd1, fun x hx y hy e => ?_⟩, ⟨ho.os.trans (bU.os.trans HB.out.os), ho.tape.trans (bU.tape.trans HB.out.tape), ho.output.trans (bU.output.trans HB.out.output), by omega, fun k hk1 hk2 => ?_⟩, T1, D1, osl1, hk1, ?_, fun d hd => ?_, fun z hz9 => ⟨?_, fun h => ?_⟩⟩
        · rcases List.mem_append.1 hf9 with h | h
          · exact r2 f h
          · have := (f1 f h).1; omega
        · have := hlt1 x hx
          have := (f1 y hy).1
          omega
        · simp only [List.mem_cons, not_or] at hk2
          exact (hkp k (by omega) hk2.1 hk2.2.1 (fun e => by have := (hz _ e).1; omega)).trans (HB.out.block k hk1 (by simp [hk2.1, hk2.2.1]))
        · have : ks[j].wt = ks[j].h.wt + ks[j].b.wt + ks[j].f.size := rfl
          omega
        · rcases hD1 d hd with h | h | h
          · rcases hD d h with ⟨i, hi, h⟩ | h
            · exact Or.inl ⟨i, by omega, h⟩
            · exact Or.inr h
          · exact Or.inl ⟨j, by omega, h⟩
          · exact Or.inr (by omega)
        · rcases hz1 z hz9 with h | h
          · exact (hz z h).1
          · omega
        · rcases List.mem_append.1 h with h | h
          · rcases hz1 z hz9 with h' | h'
            · exact (hz z h').2 h
            · have := hlt1 z h; omega
          · exact (f1 z h).2 hz9
      have HTK : Hid (ks.take (j + 1) = ks.take j ++ [ks[j]]) := List.take_succ_eq_append_getElem hlt
      have HS8 : Hid (∀ i, i < j + 1 → ∀ f ∈ G i, f < w.heap.size) := fun i hi f hf9 => by
        obtain ⟨_, _, _, _, _, _, _, _, _, q8, _⟩ := HSR.out i (by omega)
        exact (q8 f hf9).2.2
      have HU : Hid (U = _) := hU
      rw [hU] at HC0
      have HC : Hid _ := HC0
      clear s1 s5 hgb hblk hf o1 o2 hFF s8 s9 HC0 r1 r2 r3 hk hT hD hz hwj hwl hlt1 bU hsU oc s7 HSR HS0 HO hU
      clear hw3
      generalize ks[j] = kj at *
      go_wp2_with (go_at_call 57; refine (Calls.mono HC.out ?_); intro e w1 hcc; obtain ⟨k, s, n, ao, l, c, k', s', n', ao', l', c', F', rfl, hg1, hrest⟩ := HPOST.out e w1 (by rw [HU.out]; exact hcc); have HREST : Hid _ := hrest; clear hrest hcc; have y0 := blk_cell (i := j * 9) hg1 (by omega); have y1 := blk_cell (i := j * 9 + 1) hg1 (by omega); have y2 := blk_cell (i := j * 9 + 2) hg1 (by omega); have y3 := blk_cell (i := j * 9 + 3) hg1 (by omega); have y4 := blk_cell (i := j * 9 + 4) hg1 (by omega); have y5 := blk_cell (i := j * 9 + 5) hg1 (by omega); have y6 := blk_cell (i := j * 9 + 6) hg1 (by omega); have y7 := blk_cell (i := j * 9 + 7) hg1 (by omega); have y8 := blk_cell (i := j * 9 + 8) hg1 (by omega); have z0 := blk_frozen hg1 (j * 9); have z1 := blk_frozen hg1 (j * 9 + 1); have z2 := blk_frozen hg1 (j * 9 + 2); have z3 := blk_frozen hg1 (j * 9 + 3); have z4 := blk_frozen hg1 (j * 9 + 4); have z5 := blk_frozen hg1 (j * 9 + 5); have z6 := blk_frozen hg1 (j * 9 + 6); have z7 := blk_frozen hg1 (j * 9 + 7); have z8 := blk_frozen hg1 (j * 9 + 8); have HG : Hid _ := hg1; clear hg1)
      go_roundw
      case rel =>
        have hg1 := HG.out
        obtain ⟨oc, ow, hlo, hnd, ho, T, D, osl, hk, hT, hD, hz⟩ := HREST.out
        have hgm := HGM.out
        have hne : ∀ f, w.heap.size < f → f ≠ w.heap.size := fun f hf => by omega
        refine ⟨j + 1, _, F ++ F', by omega, by go_num, ?_, blk_set (blk_set (blk_set (blk_set (blk_set (blk_set (blk_set (blk_set (blk_set hg1 _) _) _) _) _) _) _) _) _, by simp; exact hcs, ?_, hlo, hnd, T, D, osl, hk.turn fun k hk9 => ?_, hT, hD, hz⟩
        · exact below_out (below_set (below_set (below_set (below_set (below_set (below_set (below_set (below_set (below_set (Below.refl w.heap.size _) (Nat.le_refl _) _) (Nat.le_refl _) _) (Nat.le_refl _) _) (Nat.le_refl _) _) (Nat.le_refl _) _) (Nat.le_refl _) _) (Nat.le_refl _) _) (Nat.le_refl _) _) (Nat.le_refl _) _) ho
        · rw [HTK.out, set9_take (by omega)]
          refine OwnCs.snoc (oc.keep fun f hf => ?_) _ _ _ (OwnCs.keep _ _ _ ow fun f hf => ?_)
          · have h1 := hlo f (List.mem_append_right _ hf)
            rw [blk_other _ (hne f (by omega)), blk_other _ (hne f (by omega)), blk_other _ (hne f (by omega)), blk_other _ (hne f (by omega)), blk_other _ (hne f (by omega)), blk_other _ (hne f (by omega)), blk_other _ (hne f (by omega)), blk_other _ (hne f (by omega)), blk_other _ (hne f (by omega))]
          · have h1 := hlo f (List.mem_append_left _ hf)
            rw [blk_other _ (hne f h1), blk_other _ (hne f h1), blk_other _ (hne f h1), blk_other _ (hne f h1), blk_other _ (hne f h1), blk_other _ (hne f h1), blk_other _ (hne f h1), blk_other _ (hne f h1), blk_other _ (hne f h1)]
        · have hkn : k ≠ w.heap.size := by
            rcases hk9 with rfl | rfl | h | h
            · omega
            · omega
            · rcases hD k h with ⟨i, hi, h⟩ | h
              · have := HS8.out i hi k h; omega
              · omega
            · have := (hz k h).1; omega
          rw [blk_other _ hkn, blk_other _ hkn, blk_other _ hkn, blk_other _ hkn, blk_other _ hkn, blk_other _ hkn, blk_other _ hkn, blk_other _ hkn, blk_other _ hkn]
      case measure => simp [intOf]; omega
    · obtain rfl : j = ks.length := by omega
      go_wp2
      go_ret
      obtain ⟨o1, o2, o3, -⟩ := HO.out
      rw [List.take_of_length_le (Nat.le_refl _)] at o1
      refine ⟨_, w.heap.size :: F, rfl, Or.inr ⟨w.heap.size, ks.length, cur.toList.take (ks.length * 9), F, rfl, ⟨by simp [hcs], Or.inr ⟨w.heap.size, ks.length, cur, rfl, Nat.zero_le _, hblk, Nat.le_refl _, by unfold maxLen; omega, hcs, rfl⟩⟩, rfl, o1⟩, ?_, ?_, HB.out⟩
      · intro f hf
        rcases List.mem_cons.1 hf with rfl | hf
        · exact Nat.le_refl _
        · have := o2 f hf; omega
      · refine List.nodup_cons.2 ⟨fun hf => ?_, o3⟩
        have := o2 _ hf
        omega
end Go.Proofs.YtmhmlkdoaojimapGreatDoor

/- impl.copiedDb, the bounds apart. -/
namespace Go.Proofs.YtmhmlkdoaojimapGreatDoor
open Go.RowKit

set_option maxHeartbeats 8000000 in
set_option maxRecDepth 20000 in
theorem copied_dbG (cs : List Cla) (xs : List ByteArray) (w : World) (c0 c1 : Value) (F : List Nat) (h : OwnClS 43 41 w cs c0 F) (hnd : F.Nodup) (hx : SsIn w xs c1) (hl1 : cs.length ≤ 1048576 ∧ claWts cs + 2 * cs.length ≤ 2097152 ∧ ∀ c ∈ cs, c.wt ≤ 1048576) (hl2 : xs.length + strWts xs ≤ 1048576) :
    Calls Tryz.prog 25 #[.agg #[c0, c1]] w fun e w' => ∃ sl F k g, e = .returned (.agg #[sl, .slice (some ⟨g, 0, none⟩) xs.length k]) ∧ OwnClS 43 41 w' cs sl F ∧ w'.ownsRow 0 9 1 (.slice (some ⟨g, 0, none⟩) xs.length k) xs.length (xs.map Value.string) ∧
      (∀ f ∈ F, w.heap.size ≤ f) ∧ F.Nodup ∧ w.heap.size ≤ g ∧ g ∉ F ∧ Below w.heap.size w w' := by
  obtain ⟨M, hM, hmk⟩ := make_strs xs.length (by omega)
  obtain ⟨W, hW⟩ : ∃ W, W = (w.alloc (.cells #[c0, c1] 35)).alloc (.cells #[.slice none 0 0, .slice none 0 0] 35) := ⟨_, rfl⟩
  have bW : Below w.heap.size w W := by rw [hW]; exact ((Below.refl _ _).alloc (Nat.le_refl _) _).alloc (by simp) _
  have lW : W.heap.size = w.heap.size + 2 := by rw [hW]; simp
  have k1 : W.heap[w.heap.size]? = some (.cells #[c0, c1] 35 (0, 0)) := by rw [hW]; exact (alloc_old _ _ (by simp)).trans (alloc_at _ _ rfl)
  have k2 : W.heap[w.heap.size + 1]? = some (.cells #[.slice none 0 0, .slice none 0 0] 35 (0, 0)) := by rw [hW]; exact alloc_at _ _ (by simp)
  have hxs := hx
  obtain ⟨a2, p2, rfl, -, -, hin⟩ := hx
  obtain ⟨a1, p1, rfl⟩ := ownClS_shape h
  have HSRC : Hid (OwnClS 43 41 w cs (.slice a1 cs.length p1) F ∧ F.Nodup ∧ (cs.length ≤ 1048576 ∧ claWts cs + 2 * cs.length ≤ 2097152 ∧ ∀ c ∈ cs, c.wt ≤ 1048576) ∧ ∀ f ∈ F, f < w.heap.size) := ⟨h, hnd, hl1, h.lt⟩
  have HBW : Hid (Below w.heap.size w W) := bW
  have HL : Hid (W.heap.size = w.heap.size + 2) := lW
  have HK : Hid (∀ w1, Below W.heap.size W w1 → w1.heap[w.heap.size]? = some (.cells #[.slice a1 cs.length p1, .slice a2 xs.length p2] 35 (0, 0)) ∧ w1.heap[w.heap.size + 1]? = some (.cells #[.slice none 0 0, .slice none 0 0] 35 (0, 0))) := fun w1 hb => ⟨(hb.block _ (Array.getElem?_eq_some_iff.1 k1).1).trans k1, (hb.block _ (Array.getElem?_eq_some_iff.1 k2).1).trans k2⟩
  have HCL : Hid (∀ (j : Nat) (hj : j < xs.length) u, Calls Tryz.prog 44 #[.string xs[j]] u fun e w' => e = .returned (.string xs[j]) ∧ Below u.heap.size u w') := fun j hj u => clone_any _ u (by have := strWt_le (List.getElem_mem hj); omega)
  obtain ⟨p, hp⟩ : ∃ p, p = w.heap.size := ⟨_, rfl⟩
  rw [← hp] at HL HK
  have HPP : Hid (p = w.heap.size) := hp
  have hy := blk_cell (i := 1) (HK.out W (Below.refl _ _)).1 (by simp)
  obtain ⟨q, hq⟩ : ∃ q, q = W.heap.size := ⟨_, rfl⟩
  have HQP : Hid (q = p + 2) := hq.trans HL.out
  clear h hnd hl1 bW lW k1 k2 hxs
  go_enter Tryz.func25, Tryz.ntmps25
  go_upto_region 1 with fail
  rw [← hW, ← hp]
  clear hW hp
  go_upto_region 2 with fail
  rw [← hq]
  obtain ⟨W1, hW1⟩ : ∃ W1, W1 = W.alloc (.cells M 9) := ⟨_, rfl⟩
  rw [← hW1]
  have HB1 : Hid (Below W.heap.size W W1) := by show Below _ _ _; rw [hW1]; exact (Below.refl _ _).alloc (Nat.le_refl _) _
  have hm1 : W1.heap[q]? = some (.cells M 9 (0, 0)) := by rw [hW1, hq]; exact heap_alloc_new _ _
  clear hW1 hmk hy
  have hy := blk_cell (i := 1) (HK.out W1 HB1.out).1 (by simp)
  go_wp2
  clear hy
  have HQ2 : Hid (q = W.heap.size) := hq
  clear hq
  go_loopw [13] (fun vi wr => ∃ (j : Nat) (cur : Array Value), j ≤ xs.length ∧ vi = .int .i64 (j : Int) ∧ Hid (Below W.heap.size W wr) ∧ wr.heap[q]? = some (.cells cur 9 (0, 0)) ∧ cur.size = xs.length ∧
      Hid (cur.toList.take j = (xs.take j).map Value.string)) (fun i _ => xs.length - (intOf i).toNat)
  case atStart =>
    exact ⟨0, M, by omega, rfl, HB1.out, hm1, hM, by show _ = _; simp⟩
  case round =>
    obtain ⟨j, cur, hj, rfl, HB, hblk, hcs, HO⟩ := hrel
    by_cases hlt : j < xs.length
    · obtain ⟨b, off, rfl, hin9⟩ := hin (by intro e; subst e; simp at hlt)
      obtain ⟨hc, _⟩ := hin9 j hlt
      have hc' := cell_keep hc (HBW.out.trans (HB.out.mono HBW.out.size))
      have HTK : Hid (xs.take (j + 1) = xs.take j ++ [xs[j]]) := List.take_succ_eq_append_getElem hlt
      have HC : Hid _ := HCL.out j hlt
      have HG0 : Hid (wr.heap[q]? = _) := hblk
      clear hin9 hin hc hblk hm1
      generalize xs[j] = xj at *
      go_wp2_with (go_at_call 44; refine (Calls.mono (HC.out _) ?_); rintro e w1 ⟨rfl, hb⟩; have hg1 := (hb.block q (Array.getElem?_eq_some_iff.1 HG0.out).1).trans HG0.out; have HG : Hid (w1.heap[q]? = _) := hg1; have HBB : Hid (Below W.heap.size W w1) := HB.out.trans (hb.mono HB.out.size); clear hb; have x0 := blk_cell (i := j) hg1 (by omega); have z0 := blk_frozen hg1 j; clear hg1)
      go_roundw
      case rel =>
        refine ⟨j + 1, _, by omega, by go_num, below_set HBB.out (by have := HQ2.out; omega) _, blk_set HG.out _, by simpa using hcs, ?_⟩
        show _ = _
        rw [HTK.out, Array.toList_setIfInBounds, take_set1 (by simp; omega), HO.out]
        simp
      case measure => simp [intOf]; omega
    · obtain rfl : j = xs.length := by omega
      go_upto_region 7 with fail
      have HBR : Hid (Below w.heap.size w wr) := HBW.out.trans (HB.out.mono HBW.out.size)
      have HKR := HK.out wr HB.out
      have HST : Hid (q < wr.heap.size ∧ wr.ownsRow 0 9 1 (.slice (some ⟨q, 0, none⟩) xs.length xs.length) xs.length (xs.map Value.string)) := by
        have ho := HO.out
        rw [List.take_of_length_le (Nat.le_refl _)] at ho
        exact ⟨(Array.getElem?_eq_some_iff.1 hblk).1, by simp, Or.inr ⟨q, xs.length, cur, rfl, Nat.zero_le _, hblk, Nat.le_refl _, by unfold maxLen; omega, by simpa using hcs, by rw [Nat.mul_one]; exact ho⟩⟩
      have HKK : Hid (wr.heap[p]? = _ ∧ wr.heap[p + 1]? = _) := HKR
      clear HKR hblk hcs HO hin hm1 HCL
      refine FI.wp_region_inv 5 (fun L v u =>
        (L 0 = true → ∃ g m, v 0 = .pointer (some ⟨g, 0, none⟩) ∧ wr.heap.size ≤ g ∧ wr.heap.size ≤ m ∧ (L 3 = false → KSt u g m 0 [] (.slice none 0 0))) ∧ (L 1 = true → v 1 = .pointer (some ⟨p, 0, none⟩)) ∧ (L 2 = true → v 2 = .slice a1 cs.length p1) ∧
        (L 3 = true → ∃ F', OwnClS 43 41 u cs (v 3) F' ∧ (∀ f ∈ F', wr.heap.size ≤ f) ∧ F'.Nodup) ∧ (L 4 = true → v 4 = .slice (some ⟨q, 0, none⟩) xs.length xs.length) ∧ Below wr.heap.size wr u) (by kernel_rfl) (by kernel_rfl) 30 rfl (by kernel_rfl) ?_ ?_ ?_
      · intro vals
        exact ⟨fun h => Bool.noConfusion h, fun h => Bool.noConfusion h, fun h => Bool.noConfusion h, fun h => Bool.noConfusion h, fun h => Bool.noConfusion h, (Below.refl wr.heap.size wr).drew⟩
      · intro i o hi ho L a u hI hcl hli hfr hdep
        obtain ⟨h0, h1, h2, h3, h4, hb⟩ := hI
        have u1 : a.tmps.getD 1 undef = .pointer (some ⟨p, 0, none⟩) := hfr 1 (by decide)
        have u3 : a.tmps.getD 3 undef = .slice (some ⟨q, 0, none⟩) xs.length xs.length := hfr 3 (by decide)
        have c30 : L 3 = true → L 0 = true := fun h => hcl 3 _ rfl h 0 (by kernel_rfl)
        have hpu := (hb.block p (Array.getElem?_eq_some_iff.1 HKK.out.1).1).trans HKK.out.1
        have x0 := blk_cell (i := 0) hpu (by simp)
        match i, hi with
        | 0, _ =>
          obtain rfl : _ = o := by simpa using ho
          have h30 : L 3 = false := by cases h : L 3 with | false => rfl | true => rw [c30 h] at hli; cases hli
          refine FI.fact_call rfl rfl Tryz.func46 (by kernel_rfl) (by kernel_rfl) (args := #[]) (by simp) ?_
          refine Calls.mono (new_copier u) ?_
          rintro e w3 ⟨rfl, kg, km, hs3, hb3⟩
          have hsu := hb.size
          exact ⟨_, rfl, fun _ => ⟨_, _, rfl, by omega, by omega, fun _ => kst_new kg km (by omega)⟩, h1, h2, fun h => Bool.noConfusion ((show L 3 = true from h).symm.trans h30), h4, hb.trans (hb3.mono hsu)⟩
        | 1, _ =>
          obtain rfl : _ = o := by simpa using ho
          refine FI.fact_value (w' := u) (v := .pointer (some ⟨p, 0, none⟩)) rfl ?_ ⟨h0, fun _ => rfl, h2, h3, h4, hb⟩
          simp only [execOp, Act.eval, u1]
          go_simp
        | 2, _ =>
          obtain rfl : _ = o := by simpa using ho
          have y1 : a.tmps.getD 25 undef = .pointer (some ⟨p, 0, none⟩) := h1 (hdep 1 (by kernel_rfl))
          refine FI.fact_value (w' := u) (v := .slice a1 cs.length p1) rfl ?_ ⟨h0, h1, fun _ => rfl, h3, h4, hb⟩
          clear h0 h1 h2 h3 h4 hcl hdep hfr ho
          simp only [execOp, Act.eval, y1]
          go_simp
        | 3, _ =>
          obtain rfl : _ = o := by simpa using ho
          obtain ⟨g, m, v0, hg, hm, hks⟩ := h0 (hdep 0 (by kernel_rfl))
          have y0 : a.tmps.getD 24 undef = .pointer (some ⟨g, 0, none⟩) := v0
          have y2 : a.tmps.getD 26 undef = .slice a1 cs.length p1 := h2 (hdep 2 (by kernel_rfl))
          have hbu := HBR.out.trans (hb.mono HBR.out.size)
          have hwr := HBR.out.size
          obtain ⟨s1, s2, s3, s4⟩ := HSRC.out
          refine FI.fact_call rfl rfl Tryz.func45 (by kernel_rfl) (by kernel_rfl) (args := #[.pointer (some ⟨g, 0, none⟩), .slice a1 cs.length p1]) (by simp [Act.eval]; exact ⟨by simpa using y0, by simpa using y2⟩) ?_
          refine Calls.mono (copied_clausesG cs u _ F g m s3.1 s3.2.1 s3.2.2 (s1.keep fun f hf => hbu.block f (s4 f hf)) s2 (hks hli) (fun f hf => by have := s4 f hf; exact ⟨by omega, by omega⟩)) ?_
          rintro e w3 ⟨sl, F', rfl, o1, o2, o3, ho4⟩
          have hsu := hb.size
          exact ⟨_, rfl, fun _ => ⟨g, m, v0, hg, hm, fun h => Bool.noConfusion (show true = false from h)⟩, h1, h2, fun _ => ⟨F', o1, fun f hf => by have := o2 f hf; omega, o3⟩, h4, hb.trans (ho4.below (by intro f hf; simp at hf; rcases hf with rfl | rfl <;> omega) hsu)⟩
        | 4, _ =>
          obtain rfl : _ = o := by simpa using ho
          refine FI.fact_value (w' := u) (v := .slice (some ⟨q, 0, none⟩) xs.length xs.length) rfl ?_ ⟨h0, h1, h2, h3, fun _ => rfl, hb⟩
          simp only [execOp, Act.eval, u3]
          go_simp
      intro L vals w6 hall hI
      obtain ⟨_, _, _, h3, h4, hb⟩ := hI
      obtain ⟨F', o1, o2, o3⟩ := h3 (hall 3 (by omega))
      obtain ⟨a3, p3, e3⟩ := ownClS_shape o1
      have e4 := h4 (hall 4 (by omega))
      rw [e3] at o1
      simp only [FZ.putN, List.getElem?_toArray, List.getElem?_cons_zero, List.getElem?_cons_succ, Option.bind_some, List.drop_succ_cons, List.drop_zero, e3, e4]
      generalize vals 0 = m0
      generalize vals 1 = m1
      generalize vals 2 = m2
      simp only [Act.put, List.setIfInBounds_toArray, List.set_cons_succ, List.set_cons_zero]
      have hk2 := (hb.block (p + 1) (Array.getElem?_eq_some_iff.1 HKK.out.2).1).trans HKK.out.2
      have hq6 := hb.block q HST.out.1
      have HFIN : Hid (∀ V, V = (w6.setCell ⟨p + 1, 0, none⟩ (.slice a3 cs.length p3)).setCell ⟨p + 1, 1, none⟩ (.slice (some ⟨q, 0, none⟩) xs.length xs.length) → V.heap[p + 1]? = some (.cells #[.slice a3 cs.length p3, .slice (some ⟨q, 0, none⟩) xs.length xs.length] 35 (0, 0)) ∧
          OwnClS 43 41 V cs (.slice a3 cs.length p3) F' ∧ V.ownsRow 0 9 1 (.slice (some ⟨q, 0, none⟩) xs.length xs.length) xs.length (xs.map Value.string) ∧ (∀ f ∈ F', p ≤ f) ∧ F'.Nodup ∧ p ≤ q ∧ q ∉ F' ∧ Below p w V) := by
        rintro V rfl
        have hqp := HQP.out
        have hqs := HST.out.1
        have hpp := HPP.out
        have hbw := HBR.out.trans (hb.mono HBR.out.size)
        rw [← hpp] at hbw
        refine ⟨by simpa using blk_set (i := 1) (blk_set (i := 0) hk2 (.slice a3 cs.length p3)) (.slice (some ⟨q, 0, none⟩) xs.length xs.length), OwnClS.keep o1 fun f hf => ?_, row_keep HST.out.2 ?_, fun f hf => by have := o2 f hf; omega, o3, by omega, fun hf => by have := o2 q hf; omega, below_set (below_set hbw (by omega) _) (by omega) _⟩
        · have h1 := o2 f hf
          rw [blk_other _ (by omega), blk_other _ (by omega)]
        · rw [blk_other _ (by omega), blk_other _ (by omega)]
          exact hq6
      have y0 := blk_cell (i := 0) hk2 (by simp)
      have y1 := blk_cell (i := 1) hk2 (by simp)
      have f0 := blk_frozen hk2 0
      have f1 := blk_frozen hk2 1
      clear hk2 hq6 h3 h4 hb o1 o2 o3 e3 e4 hall
      go_wp2
      obtain ⟨r1, r2⟩ := HFIN.out _ rfl
      refine bodyPost_ret_by (results_cell_row rfl _ _ (p + 1) 35 _ (0, 0) _ rfl r1 Tryz.underlying35 rfl (by kernel_rfl)) rfl ?_
      exact ⟨_, F', _, q, rfl, by simpa only [HPP.out] using r2⟩
end Go.Proofs.YtmhmlkdoaojimapGreatDoor
