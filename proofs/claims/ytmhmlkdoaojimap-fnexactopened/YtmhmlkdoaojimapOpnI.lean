/- impl.Opened. -/
import Derived.Test.YtmhmlkdoaojimapKDb
import Derived.Test.YtmhmlkdoaojimapHasI
import Derived.Maps.AppendAt
import Derived.ArgAppend
namespace Go.Proofs.Ytmhmlkdoaojimap
open Go.RowKit

set_option maxHeartbeats 8000000 in
set_option maxRecDepth 20000 in
theorem i_opened (cs : List Cla) (xs : List ByteArray) (nm : ByteArray) (w : World) (c0 c1 : Value) (F : List Nat) (h : OwnClS 56 54 w cs c0 F) (hnd : F.Nodup) (hx : SsIn w xs c1) (hl1 : cs.length + claWts cs ≤ 1048576) (hl2 : xs.length + strWts xs ≤ 1048576) (hnm : nm.size ≤ 1048576) (R : List ByteArray) (hR1 : xs.length < 40 → nm ∉ xs → R = xs ++ [nm]) (hR2 : ¬ (xs.length < 40 ∧ nm ∉ xs) → R = xs) :
    Calls Try.prog 7 #[.agg #[c0, c1], .string nm] w (DbOut w cs R) := by
  obtain ⟨W, hW⟩ : ∃ W, W = (w.alloc (.cells #[c0, c1] 29)).alloc (.cells #[.slice none 0 0, .slice none 0 0] 29) := ⟨_, rfl⟩
  have bW : Below w.heap.size w W := by rw [hW]; exact ((Below.refl _ _).alloc (Nat.le_refl _) _).alloc (by simp) _
  have lW : W.heap.size = w.heap.size + 2 := by rw [hW]; simp
  have k1 : W.heap[w.heap.size]? = some (.cells #[c0, c1] 29 (0, 0)) := by rw [hW]; exact (alloc_old _ _ (by simp)).trans (alloc_at _ _ rfl)
  have k2 : W.heap[w.heap.size + 1]? = some (.cells #[.slice none 0 0, .slice none 0 0] 29 (0, 0)) := by rw [hW]; exact alloc_at _ _ (by simp)
  have HC : Hid _ := copied_db cs xs W c0 c1 F (OwnClS.keep h fun f hf => bW.block f (h.lt f hf)) hnd (hx.keep bW) hl1 hl2
  have HCN : Hid (∀ u, Calls Try.prog 19 #[.string nm] u fun e w' => e = .returned (.string nm) ∧ Below u.heap.size u w') := fun u => clone_any nm u hnm
  have HSZ : Hid (xs.length ≤ 1048576 ∧ ∀ x ∈ xs, x.size ≤ maxLen) := ⟨by omega, fun x hx9 => by have := strWt_le hx9; unfold maxLen; omega⟩
  obtain ⟨a2, p2, rfl, -⟩ := hx
  obtain ⟨a1, p1, rfl⟩ := ownClS_shape h
  have HBW : Hid (Below w.heap.size w W) := bW
  obtain ⟨p, hp⟩ : ∃ p, p = w.heap.size := ⟨_, rfl⟩
  rw [← hp] at k1 k2 lW
  have HK2 : Hid (W.heap[p + 1]? = _) := k2
  have HL : Hid (W.heap.size = p + 2) := lW
  have HPP : Hid (p = w.heap.size) := hp
  have y0 := blk_cell (i := 0) k1 (by simp)
  have y1 := blk_cell (i := 1) k1 (by simp)
  clear h hnd hl1 hl2 hnm bW lW k1 k2
  go_enter Try.func7, Try.ntmps7
  go_upto_region 1 with fail
  rw [← hW, ← hp]
  clear hW hp
  go_upto_region 2 with (go_at_call 17; refine (Calls.mono HC.out ?_); rintro e w1 ⟨sl, G, k, g, rfl, o1, o2, o3, o4, o5, o6, o7⟩; obtain ⟨a3, p3, rfl⟩ := ownClS_shape o1; have HO : Hid (OwnClS 56 54 w1 cs (.slice a3 cs.length p3) G ∧ w1.ownsRow 0 9 1 (.slice (some ⟨g, 0, none⟩) xs.length k) xs.length (xs.map Value.string) ∧ (∀ f ∈ G, W.heap.size ≤ f) ∧ G.Nodup ∧ W.heap.size ≤ g ∧ g ∉ G ∧ Below W.heap.size W w1) := ⟨o1, o2, o3, o4, o5, o6, o7⟩; clear o1 o2 o3 o4 o5 o6 o7)
  clear y0 y1
  obtain ⟨W1, hW1⟩ : ∃ W1, W1 = w1.alloc (.cells #[.slice a3 cs.length p3, .slice (some ⟨g, 0, none⟩) xs.length k] 29) := ⟨_, rfl⟩
  obtain ⟨q, hq⟩ : ∃ q, q = w1.heap.size := ⟨_, rfl⟩
  rw [← hW1, ← hq]
  have b1 : Below w1.heap.size w1 W1 := by rw [hW1]; exact (Below.refl _ _).alloc (Nat.le_refl _) _
  have kq : W1.heap[q]? = some (.cells #[.slice a3 cs.length p3, .slice (some ⟨g, 0, none⟩) xs.length k] 29 (0, 0)) := by rw [hW1, hq]; exact heap_alloc_new _ _
  have HQ : Hid (W1.heap[q]? = _) := kq
  have kp : W1.heap[p + 1]? = some (.cells #[.slice none 0 0, .slice none 0 0] 29 (0, 0)) := (b1.block _ (by have := HO.out.2.2.2.2.2.2.size; have := HL.out; omega)).trans ((HO.out.2.2.2.2.2.2.block _ (by have := HL.out; omega)).trans HK2.out)
  have HO1 : Hid (OwnClS 56 54 W1 cs (.slice a3 cs.length p3) G ∧ W1.ownsRow 0 9 1 (.slice (some ⟨g, 0, none⟩) xs.length k) xs.length (xs.map Value.string) ∧ (∀ f ∈ G, p + 2 ≤ f ∧ f < q) ∧ G.Nodup ∧ p + 2 ≤ g ∧ g ∉ G ∧ Below p w W1 ∧ p + 2 ≤ q ∧ g < q ∧ q < W1.heap.size) := by
    obtain ⟨o1, o2, o3, o4, o5, o6, o7⟩ := HO.out
    have hl := HL.out
    have hs := o7.size
    have hpp := HPP.out
    have hg := (o2.lt g rfl).2
    have hbw := HBW.out
    rw [← hpp] at hbw
    refine ⟨OwnClS.keep o1 fun f hf => b1.block f (o1.lt f hf), row_keep o2 (b1.block g hg), fun f hf => ⟨by have := o3 f hf; omega, by have := o1.lt f hf; omega⟩, o4, by omega, o6, (hbw.trans (o7.mono (by omega))).trans (b1.mono (by omega)), by omega, by omega, by rw [hW1]; simp; omega⟩
  have HCT : Hid _ := contains_strs xs W1 (.slice (some ⟨g, 0, none⟩) xs.length k) nm (owns_ss HO1.out.2.1 HSZ.out.2)
  have z0 := blk_cell (i := 0) kq (by simp)
  have z1 := blk_cell (i := 1) kq (by simp)
  have HKP : Hid (W1.heap[p + 1]? = _) := kp
  clear hW1 hq b1 kq kp HO HC HK2
  -- what comes of it where nothing is put behind
  have HSAME : Hid (∀ V, V = (W1.setCell ⟨p + 1, 0, none⟩ (.slice a3 cs.length p3)).setCell ⟨p + 1, 1, none⟩ (.slice (some ⟨g, 0, none⟩) xs.length k) → V.heap[p + 1]? = some (.cells #[.slice a3 cs.length p3, .slice (some ⟨g, 0, none⟩) xs.length k] 29 (0, 0)) ∧ DbOut w cs xs (.returned (.agg #[.slice a3 cs.length p3, .slice (some ⟨g, 0, none⟩) xs.length k])) V) := by
    rintro V rfl
    obtain ⟨o1, o2, o3, o4, o5, o6, o7, o8, o9, o10⟩ := HO1.out
    have hpp := HPP.out
    refine ⟨db_two HKP.out, _, G, k, g, rfl, OwnClS.keep o1 fun f hf => ?_, row_keep o2 ?_, fun f hf => by have := (o3 f hf).1; omega, o4, by omega, o6, ?_⟩
    · have := (o3 f hf).1
      rw [blk_other _ (by omega), blk_other _ (by omega)]
    · rw [blk_other _ (by omega), blk_other _ (by omega)]
    · rw [← hpp]
      exact below_set (below_set o7 (by omega) _) (by omega) _
  by_cases hlt : xs.length < 40
  · by_cases hmem : nm ∈ xs
    · obtain rfl : R = xs := hR2 fun h => h.2 hmem
      have HM : Hid (nm ∈ R) := hmem
      have hlt' : ((R.length : Int)) < 40 := by omega
      clear hmem hlt hR1 hR2
      go_upto_region 4 with (go_at_call 18; refine (Calls.mono HCT.out ?_); rintro e w2 ⟨b, rfl, hb, rfl⟩; obtain rfl : b = true := hb.2 HM.out; clear hb)
      clear hlt'
      have y0 := blk_cell (i := 0) HKP.out (by simp)
      have y1 := blk_cell (i := 1) HKP.out (by simp)
      have f0 := blk_frozen HKP.out 0
      have f1 := blk_frozen HKP.out 1
      go_wp2
      obtain ⟨r1, r2⟩ := HSAME.out _ rfl
      exact bodyPost_ret_by (results_cell_row rfl _ _ (p + 1) 29 _ (0, 0) _ rfl r1 Try.underlying29 rfl (by kernel_rfl)) rfl r2
    · have HR : Hid (R = xs ++ [nm]) := hR1 hlt hmem
      have HM : Hid (nm ∉ xs) := hmem
      have hlt' : ((xs.length : Int)) < 40 := by omega
      clear hmem hlt hR1 hR2 HSAME
      go_upto_region 3 with (go_at_call 18; refine (Calls.mono HCT.out ?_); rintro e w2 ⟨b, rfl, hb, rfl⟩; obtain rfl : b = false := (by cases b with | false => rfl | true => exact absurd (hb.1 rfl) HM.out); clear hb)
      clear hlt' z0 z1
      obtain ⟨i0, hi9, hz0, hz1, hz2⟩ := info_parts infoSt
      refine FI.wp_region_inv 7 (fun L v u =>
        (L 0 = true → v 0 = .pointer (some ⟨q, 1, none⟩)) ∧ (L 1 = true → v 1 = .slice (some ⟨g, 0, none⟩) xs.length k) ∧ (L 2 = true → v 2 = .string nm) ∧ (L 3 = true → v 3 = .string nm) ∧
        (L 4 = true → L 5 = false → ∃ b, v 4 = .slice (some ⟨b, 0, none⟩) 1 1 ∧ u.heap[b]? = some (.cells #[.string nm] 9 (0, 0))) ∧ (L 6 = true → v 6 = .pointer (some ⟨q, 1, none⟩)) ∧ (L 5 = false → Below w2.heap.size w2 u) ∧
        (L 5 = true → u.ownsRow (p + 2) 9 1 (v 5) (xs.length + 1) (xs.map Value.string ++ [.string nm]) ∧ (∃ g', (v 5).ownBlock = some g' ∧ (g' = g ∨ w2.heap.size ≤ g')) ∧ Out [g] w2 u)) (by kernel_rfl) (by kernel_rfl) 27 rfl (by kernel_rfl) ?_ ?_ ?_
      · intro vals
        exact ⟨fun h => Bool.noConfusion h, fun h => Bool.noConfusion h, fun h => Bool.noConfusion h, fun h => Bool.noConfusion h, fun h => Bool.noConfusion h, fun h => Bool.noConfusion h, fun _ => (Below.refl w2.heap.size w2).drew, fun h => Bool.noConfusion h⟩
      · intro i o hi ho L a u hI hcl hli hfr hdep
        obtain ⟨h0, h1, h2, h3, h4, h6, h5, h5'⟩ := hI
        have u1 : a.tmps.getD 1 undef = .string nm := hfr 1 (by decide)
        have u5 : a.tmps.getD 5 undef = .pointer (some ⟨q, 0, none⟩) := hfr 5 (by decide)
        have c51 : L 5 = true → L 1 = true := fun h => hcl 5 _ rfl h 1 (by kernel_rfl)
        have c54 : L 5 = true → L 4 = true := fun h => hcl 5 _ rfl h 4 (by kernel_rfl)
        have c43 : L 4 = true → L 3 = true := fun h => hcl 4 _ rfl h 3 (by kernel_rfl)
        match i, hi with
        | 0, _ =>
          obtain rfl : _ = o := by simpa using ho
          refine FI.fact_value (w' := u) (v := .pointer (some ⟨q, 1, none⟩)) rfl ?_ ⟨fun _ => rfl, h1, h2, h3, h4, h6, h5, h5'⟩
          simp only [execOp, Act.eval, u5]
          go_simp
        | 1, _ =>
          obtain rfl : _ = o := by simpa using ho
          have y0 : a.tmps.getD 19 undef = .pointer (some ⟨q, 1, none⟩) := h0 (hdep 0 (by kernel_rfl))
          have h5f : L 5 = false := by cases h : L 5 with | false => rfl | true => rw [c51 h] at hli; cases hli
          have hqu := ((h5 h5f).block q HO1.out.2.2.2.2.2.2.2.2.2).trans HQ.out
          have x1 := blk_cell (i := 1) hqu (by simp)
          refine FI.fact_value (w' := u) (v := .slice (some ⟨g, 0, none⟩) xs.length k) rfl ?_ ⟨h0, fun _ => rfl, h2, h3, h4, h6, h5, h5'⟩
          clear h0 h1 h2 h3 h4 h6 h5 h5' hcl hdep hfr ho hqu
          simp only [execOp, Act.eval, y0]
          go_simp
        | 2, _ =>
          obtain rfl : _ = o := by simpa using ho
          refine FI.fact_value (w' := u) (v := .string nm) rfl ?_ ⟨h0, h1, fun _ => rfl, h3, h4, h6, h5, h5'⟩
          simp only [execOp, Act.eval, u1]
          go_simp
        | 3, _ =>
          obtain rfl : _ = o := by simpa using ho
          have y2 : a.tmps.getD 21 undef = .string nm := h2 (hdep 2 (by kernel_rfl))
          have h4f : L 4 = false := by cases h : L 4 with | false => rfl | true => rw [c43 h] at hli; cases hli
          have h5f : L 5 = false := by cases h : L 5 with | false => rfl | true => rw [c54 h] at h4f; cases h4f
          refine FI.fact_call rfl rfl Try.func19 (by kernel_rfl) (by kernel_rfl) (args := #[.string nm]) (by simp [Act.eval]; simpa using y2) ?_
          refine Calls.mono (HCN.out u) ?_
          rintro e w6 ⟨rfl, hb⟩
          exact ⟨_, rfl, h0, h1, h2, fun _ => rfl, fun h => Bool.noConfusion ((show L 4 = true from h).symm.trans h4f), h6, fun _ => (h5 h5f).trans (hb.mono (h5 h5f).size), fun h => Bool.noConfusion ((show L 5 = true from h).symm.trans h5f)⟩
        | 4, _ =>
          obtain rfl : _ = o := by simpa using ho
          have y3 : a.tmps.getD 22 undef = .string nm := h3 (hdep 3 (by kernel_rfl))
          have h5f : L 5 = false := by cases h : L 5 with | false => rfl | true => rw [c54 h] at hli; cases hli
          have e9 : (#[((0 : Nat), Operand.tmp 22)].map fun x => (x.1, a.eval x.2)) = #[(0, .string nm)] := by
            simp [Act.eval]
            simpa using y3
          have bA : Below u.heap.size u (u.alloc (.cells #[.string nm] 9)) := (Below.refl _ _).alloc (Nat.le_refl _) _
          refine FI.fact_value (w' := u.alloc (.cells #[.string nm] 9)) (v := .slice (some ⟨u.heap.size, 0, none⟩) 1 1) rfl ?_ ⟨h0, h1, h2, h3, fun _ _ => ⟨u.heap.size, rfl, heap_alloc_new _ _⟩, h6, fun h => (h5 h).trans (bA.mono (h5 h).size), fun h => Bool.noConfusion ((show L 5 = true from h).symm.trans h5f)⟩
          clear h0 h1 h2 h3 h4 h6 h5 h5' hcl hdep hfr ho
          simp only [execOp, e9]
          go_simp
        | 5, _ =>
          obtain rfl : _ = o := by simpa using ho
          have y1 : a.tmps.getD 20 undef = .slice (some ⟨g, 0, none⟩) xs.length k := h1 (hdep 1 (by kernel_rfl))
          obtain ⟨b, v4, hb4⟩ := h4 (hdep 4 (by kernel_rfl)) hli
          have y4 : a.tmps.getD 23 undef = .slice (some ⟨b, 0, none⟩) 1 1 := v4
          have hbu := h5 hli
          obtain ⟨o1, o2, o3, o4, o5, o6, o7, o8, o9, o10⟩ := HO1.out
          have hown : u.ownsRow (p + 2) 9 1 (.slice (some ⟨g, 0, none⟩) xs.length k) xs.length (xs.map Value.string) := by
            rcases o2.2 with ⟨h, _⟩ | ⟨g', cap', cur', e, _, hh⟩
            · cases h
            · cases e
              exact ⟨o2.1, Or.inr ⟨g, k, cur', rfl, o5, (hbu.block g (by omega)).trans hh.1, hh.2⟩⟩
          obtain ⟨v', u', hr, r1, r2, r3, r4⟩ := run_append_own_at (P := Try.prog) u (p + 2) 23 23 9 i0 (.string ⟨#[]⟩) 1 16 Try.underlying23 hi9 hz0 hz1 hz2 rfl (by decide) _ _ _ hown ⟨b, 0, none⟩ 1 1 [.string nm] (by simp) (fun j z hj => by
            match j, hj with
            | 0, hj =>
              simp at hj
              subst hj
              rw [Addr.add_lit, Nat.zero_add]
              exact blk_cell (i := 0) hb4 (by simp)) (by simp; rfl) (by have := HSZ.out.1; unfold maxLen; omega) (by have := HSZ.out.1; omega) (by have := hbu.size; omega)
          have hbs := hbu.size
          have hg' : ∃ g', v'.ownBlock = some g' ∧ (g' = g ∨ w2.heap.size ≤ g') := by
            rcases r4 with h | h
            · exact ⟨g, h, Or.inl rfl⟩
            · exact ⟨_, h, Or.inr hbs⟩
          refine FI.fact_value (w' := u') (v := v') rfl ?_ ⟨h0, h1, h2, h3, fun _ h => Bool.noConfusion (show true = false from h), h6, fun h => Bool.noConfusion (show true = false from h), fun _ => ⟨r1, hg', ⟨r2.os.trans hbu.os, r2.tape.trans hbu.tape, r2.output.trans hbu.output, Nat.le_trans hbs r2.size, fun j hj hjn => (r2.block j (by omega) (by simp [Value.ownBlock]; simpa using hjn)).trans (hbu.block j hj)⟩⟩⟩
          clear h0 h1 h2 h3 h4 h6 h5 h5' hcl hdep hfr ho r1 r2 r3 r4 hown o1 o2 o3 o4 o5 o6 o7 o8 o9 o10 hg' hbu
          have z1 : a.eval (.tmp 20) = .slice (some ⟨g, 0, none⟩) xs.length k := y1
          have z4 : a.eval (.tmp 23) = .slice (some ⟨b, 0, none⟩) 1 1 := y4
          simp only [execOp, resolve, invoke, builtin, Sem.run_bind, Sem.run_pure, Result.andThen_ok, List.map_toArray, List.map_cons, List.map_nil, z1, z4, hr]
        | 6, _ =>
          obtain rfl : _ = o := by simpa using ho
          refine FI.fact_value (w' := u) (v := .pointer (some ⟨q, 1, none⟩)) rfl ?_ ⟨h0, h1, h2, h3, h4, fun _ => rfl, h5, h5'⟩
          simp only [execOp, Act.eval, u5]
          go_simp
      intro L vals w6 hall hI
      obtain ⟨_, _, _, _, _, h6, _, h5⟩ := hI
      obtain ⟨r1, ⟨g', r2, r3⟩, r4⟩ := h5 (hall 5 (by omega))
      have e6 := h6 (hall 6 (by omega))
      obtain ⟨k', e5⟩ : ∃ k', vals 5 = .slice (some ⟨g', 0, none⟩) (xs.length + 1) k' := by
        rcases r1.2 with ⟨h, _⟩ | ⟨g9, cap9, cur9, e, _⟩
        · rw [h] at r2; cases r2
        · rw [e] at r2
          obtain rfl : g9 = g' := by simpa [Value.ownBlock] using r2
          exact ⟨cap9, e⟩
      rw [e5] at r1
      simp only [FZ.putN, List.getElem?_toArray, List.getElem?_cons_zero, List.getElem?_cons_succ, Option.bind_some, List.drop_succ_cons, List.drop_zero, e5, e6]
      generalize vals 0 = m0
      generalize vals 1 = m1
      generalize vals 2 = m2
      generalize vals 3 = m3
      generalize vals 4 = m4
      simp only [Act.put, List.setIfInBounds_toArray, List.set_cons_succ, List.set_cons_zero]
      obtain ⟨o1, o2, o3, o4, o5, o6, o7, o8, o9, o10⟩ := HO1.out
      have hpp := HPP.out
      have kq6 := (r4.block q o10 (by simp; omega)).trans HQ.out
      have kp6 := (r4.block (p + 1) (Array.getElem?_eq_some_iff.1 HKP.out).1 (by simp; omega)).trans HKP.out
      have hg9 : g' ≠ q ∧ g' ≠ p + 1 ∧ g' ∉ G ∧ p + 2 ≤ g' := by
        rcases r3 with rfl | h
        · exact ⟨by omega, by omega, o6, o5⟩
        · exact ⟨by omega, by have := (Array.getElem?_eq_some_iff.1 HKP.out).1; omega, fun hm => by have := (o3 _ hm).2; omega, by omega⟩
      have hrow0 : w6.ownsRow 0 9 1 (.slice (some ⟨g', 0, none⟩) (xs.length + 1) k') (xs.length + 1) (xs.map Value.string ++ [.string nm]) := by
        rcases r1.2 with ⟨h, _⟩ | ⟨g9, cap9, cur9, e, _, hh⟩
        · cases h
        · exact ⟨r1.1, Or.inr ⟨g9, cap9, cur9, e, Nat.zero_le _, hh⟩⟩
      have hb6 : Below p w w6 := ⟨r4.os.trans o7.os, r4.tape.trans o7.tape, r4.output.trans o7.output, Nat.le_trans o7.size r4.size, fun j hj => (r4.block j (by omega) (by simp; omega)).trans (o7.block j hj)⟩
      obtain ⟨V1, hV1⟩ : ∃ V1, V1 = w6.setCell ⟨q, 1, none⟩ (.slice (some ⟨g', 0, none⟩) (xs.length + 1) k') := ⟨_, rfl⟩
      have kq7 : V1.heap[q]? = some (.cells #[.slice a3 cs.length p3, .slice (some ⟨g', 0, none⟩) (xs.length + 1) k'] 29 (0, 0)) := by rw [hV1]; simpa using blk_set (i := 1) kq6 (.slice (some ⟨g', 0, none⟩) (xs.length + 1) k')
      have kp7 : V1.heap[p + 1]? = some (.cells #[.slice none 0 0, .slice none 0 0] 29 (0, 0)) := by rw [hV1]; exact (blk_other _ (by omega)).trans kp6
      have HFIN : Hid (∀ V, V = (V1.setCell ⟨p + 1, 0, none⟩ (.slice a3 cs.length p3)).setCell ⟨p + 1, 1, none⟩ (.slice (some ⟨g', 0, none⟩) (xs.length + 1) k') → V.heap[p + 1]? = some (.cells #[.slice a3 cs.length p3, .slice (some ⟨g', 0, none⟩) (xs.length + 1) k'] 29 (0, 0)) ∧ DbOut w cs R (.returned (.agg #[.slice a3 cs.length p3, .slice (some ⟨g', 0, none⟩) (xs.length + 1) k'])) V) := by
        rintro V rfl
        rw [HR.out]
        have hle : (xs ++ [nm]).length = xs.length + 1 := by simp
        refine ⟨db_two kp7, _, G, k', g', by rw [hle], OwnClS.keep o1 fun f hf => ?_, ?_, fun f hf => by have := (o3 f hf).1; omega, o4, by omega, hg9.2.2.1, ?_⟩
        · have := o3 f hf
          rw [blk_other _ (by omega), blk_other _ (by omega), hV1, blk_other _ (by omega)]
          exact r4.block f (by omega) (by simp; intro e; exact o6 (e ▸ hf))
        · rw [hle, List.map_append]
          refine row_keep hrow0 ?_
          rw [blk_other _ (by omega), blk_other _ (by omega), hV1, blk_other _ (by omega)]
        · rw [← hpp]
          refine below_set (below_set ?_ (by omega) _) (by omega) _
          rw [hV1]
          exact below_set hb6 (by omega) _
      have HV1 : Hid (V1 = _) := hV1
      have x1 := blk_cell (i := 1) kq6 (by simp)
      have g1 := blk_frozen kq6 1
      have y0 := blk_cell (i := 0) kp7 (by simp)
      have y1 := blk_cell (i := 1) kp7 (by simp)
      have f0 := blk_frozen kp7 0
      have f1 := blk_frozen kp7 1
      have z0 := blk_cell (i := 0) kq7 (by simp)
      have z1 := blk_cell (i := 1) kq7 (by simp)
      clear r1 r2 r3 r4 o1 o2 o3 o4 o5 o6 o7 o8 o9 o10 kq6 kp6 kq7 kp7 hg9 hrow0 hb6 h6 h5 e5 e6 hall hpp
      go_upto_region 4 with fail
      rw [← hV1]
      clear hV1 x1 g1
      go_wp2
      obtain ⟨r1, r2⟩ := HFIN.out _ rfl
      exact bodyPost_ret_by (results_cell_row rfl _ _ (p + 1) 29 _ (0, 0) _ rfl r1 Try.underlying29 rfl (by kernel_rfl)) rfl r2
  · obtain rfl : R = xs := hR2 fun h => hlt h.1
    have hlt' : ¬ ((R.length : Int)) < 40 := by omega
    clear hlt hR1 hR2
    go_upto_region 4 with fail
    clear hlt'
    have y0 := blk_cell (i := 0) HKP.out (by simp)
    have y1 := blk_cell (i := 1) HKP.out (by simp)
    have f0 := blk_frozen HKP.out 0
    have f1 := blk_frozen HKP.out 1
    go_wp2
    obtain ⟨r1, r2⟩ := HSAME.out _ rfl
    exact bodyPost_ret_by (results_cell_row rfl _ _ (p + 1) 29 _ (0, 0) _ rfl r1 Try.underlying29 rfl (by kernel_rfl)) rfl r2
end Go.Proofs.Ytmhmlkdoaojimap
