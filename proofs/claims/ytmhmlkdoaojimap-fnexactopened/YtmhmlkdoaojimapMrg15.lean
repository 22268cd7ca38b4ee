/- Four texts in one. -/
import Derived.Test.YtmhmlkdoaojimapMrg13
import Derived.Test.YtmhmlkdoaojimapMrg14
import Derived.Test.YtmhmlkdoaojimapMrg8
import Derived.Maps.AppendAt
import Derived.Test.YtmhmlkdoaojimapMrg2
import Derived.Test.YtmhmlkdoaojimapRows
import Derived.Test.YtmhmlkdoaojimapMrg4
import Derived.ProofKit
/- spec.l08OpenedRaw, spec.Opened. -/
namespace Go.Proofs.Ytmhmlkdoaojimap
open Go.RowKit

theorem toL_mk (s : ByteArray) : (⟨s.toList.toArray⟩ : ByteArray) = s := by
  rw [ByteArray.toList_eq]
/-- the clauses and names that come back, wherever they lie -/
def DbIn (w : World) (cs : List Cla) (xs : List ByteArray) (e : Ending) (w' : World) : Prop :=
  ∃ sl ss, e = .returned (.agg #[sl, ss]) ∧ ClsIn w' cs sl ∧ SsIn w' xs ss ∧ Below w.heap.size w w'

set_option maxHeartbeats 8000000 in
set_option maxRecDepth 20000 in
theorem s_openedRaw (cs : List Cla) (xs : List ByteArray) (nm : ByteArray) (w : World) (c0 c1 : Value) (h : ClsIn w cs c0) (hx : SsIn w xs c1) (hl1 : cs.length ≤ 1048576) (hl2 : xs.length + strWts xs ≤ 1048576) (hnm : nm.size ≤ 1048576) (R : List ByteArray) (hR1 : xs.length < 40 → nm ∉ xs → R = xs ++ [nm]) (hR2 : ¬ (xs.length < 40 ∧ nm ∉ xs) → R = xs) :
    Calls Try.prog 13 #[.agg #[c0, c1], .string nm] w (DbIn w cs R) := by
  obtain ⟨W, hW⟩ : ∃ W, W = (w.alloc (.cells #[c0, c1] 29)).alloc (.cells #[.slice none 0 0, .slice none 0 0] 29) := ⟨_, rfl⟩
  have bW : Below w.heap.size w W := by rw [hW]; exact ((Below.refl _ _).alloc (Nat.le_refl _) _).alloc (by simp) _
  have lW : W.heap.size = w.heap.size + 2 := by rw [hW]; simp
  have k1 : W.heap[w.heap.size]? = some (.cells #[c0, c1] 29 (0, 0)) := by rw [hW]; exact (alloc_old _ _ (by simp)).trans (alloc_at _ _ rfl)
  have k2 : W.heap[w.heap.size + 1]? = some (.cells #[.slice none 0 0, .slice none 0 0] 29 (0, 0)) := by rw [hW]; exact alloc_at _ _ (by simp)
  obtain ⟨a1, p1, news, rfl, hcap, _, hv, hcell⟩ := cls_vals h
  have HC : Hid _ := l08_copy cs xs W a1 p1 news c1 hcap hv.1 (fun hne => by
    obtain ⟨b, off, e, hc⟩ := hcell hne
    exact ⟨b, off, e, fun j z hj => cell_keep (hc j z hj) bW⟩) (hx.keep bW) hl1 (by omega)
  have HV : Hid (ClsVals w cs news) := hv
  have HSZ : Hid (xs.length ≤ 1048576 ∧ (∀ x ∈ xs, x.size ≤ maxLen) ∧ nm.size ≤ maxLen) := ⟨by omega, fun x hx9 => by have := strWt_le hx9; unfold maxLen; omega, by unfold maxLen; omega⟩
  obtain ⟨a2, p2, rfl, hc2, hc3, hin⟩ := hx
  have HBW : Hid (Below w.heap.size w W) := bW
  obtain ⟨p, hp⟩ : ∃ p, p = w.heap.size := ⟨_, rfl⟩
  rw [← hp] at k1 k2 lW
  have HK : Hid (W.heap[p]? = _ ∧ W.heap[p + 1]? = _) := ⟨k1, k2⟩
  have HL : Hid (W.heap.size = p + 2) := lW
  have HPP : Hid (p = w.heap.size) := hp
  have y0 := blk_cell (i := 0) k1 (by simp)
  have y1 := blk_cell (i := 1) k1 (by simp)
  clear h hv hcell hcap hl1 hl2 hnm bW lW k1 k2 hc2 hc3
  go_enter Try.func13, Try.ntmps13
  go_upto_region 1 with fail
  rw [← hW, ← hp]
  clear hW hp
  go_upto_region 2 with (go_at_call 27; refine (Calls.mono HC.out ?_); rintro e w1 ⟨g, k, g', k', rfl, o2, o3, o4⟩; have HO : Hid (w1.ownsRow W.heap.size 56 9 (.slice (some ⟨g, 0, none⟩) cs.length k) cs.length news ∧ w1.ownsRow W.heap.size 9 1 (.slice (some ⟨g', 0, none⟩) xs.length k') xs.length (xs.map Value.string) ∧ Below W.heap.size W w1) := ⟨o2, o3, o4⟩; clear o2 o3 o4)
  clear y0 y1
  obtain ⟨W1, hW1⟩ : ∃ W1, W1 = w1.alloc (.cells #[.slice (some ⟨g, 0, none⟩) cs.length k, .slice (some ⟨g', 0, none⟩) xs.length k'] 29) := ⟨_, rfl⟩
  obtain ⟨q, hq⟩ : ∃ q, q = w1.heap.size := ⟨_, rfl⟩
  rw [← hW1, ← hq]
  have b1 : Below w1.heap.size w1 W1 := by rw [hW1]; exact (Below.refl _ _).alloc (Nat.le_refl _) _
  have kq : W1.heap[q]? = some (.cells #[.slice (some ⟨g, 0, none⟩) cs.length k, .slice (some ⟨g', 0, none⟩) xs.length k'] 29 (0, 0)) := by rw [hW1, hq]; exact heap_alloc_new _ _
  have HQ : Hid (W1.heap[q]? = _) := kq
  have hs1 := HO.out.2.2.size
  have kp : W1.heap[p + 1]? = some (.cells #[.slice none 0 0, .slice none 0 0] 29 (0, 0)) := (b1.block _ (by have := HL.out; omega)).trans ((HO.out.2.2.block _ (by have := HL.out; omega)).trans HK.out.2)
  have kb : W1.heap[p]? = some (.cells #[.slice a1 cs.length p1, .slice a2 xs.length p2] 29 (0, 0)) := (b1.block _ (by have := HL.out; omega)).trans ((HO.out.2.2.block _ (by have := HL.out; omega)).trans HK.out.1)
  have HO1 : Hid (W1.ownsRow (p + 2) 56 9 (.slice (some ⟨g, 0, none⟩) cs.length k) cs.length news ∧ W1.ownsRow (p + 2) 9 1 (.slice (some ⟨g', 0, none⟩) xs.length k') xs.length (xs.map Value.string) ∧ Below p w W1 ∧ p + 2 ≤ q ∧ g < q ∧ g' < q ∧ p + 2 ≤ g ∧ p + 2 ≤ g' ∧ g ≠ g' ∧ q < W1.heap.size) := by
    obtain ⟨o2, o3, o4⟩ := HO.out
    have hl := HL.out
    have hpp := HPP.out
    have hg := o2.lt g rfl
    have hg' := o3.lt g' rfl
    have hbw := HBW.out
    rw [← hpp] at hbw
    rw [hl] at o2 o3
    refine ⟨row_keepB o2 fun b e => b1.block b (o2.lt b e).2, row_keepB o3 fun b e => b1.block b (o3.lt b e).2, (hbw.trans (o4.mono (by omega))).trans (b1.mono (by omega)), by omega, by omega, by omega, by omega, by omega, ?_, by rw [hW1]; simp; omega⟩
    rintro rfl
    rcases o2.2 with ⟨h, _⟩ | ⟨g9, cap9, cur9, e9, _, hh, _⟩
    · cases h
    · cases e9
      rcases o3.2 with ⟨h, _⟩ | ⟨g8, cap8, cur8, e8, _, hh8, _⟩
      · cases h
      · cases e8
        rw [hh] at hh8
        cases hh8
  have HKP : Hid (W1.heap[p + 1]? = _) := kp
  have yb := blk_cell (i := 1) kb (by simp)
  have z0 := blk_cell (i := 0) kq (by simp)
  have z1 := blk_cell (i := 1) kq (by simp)
  have y0 := blk_cell (i := 0) kp (by simp)
  have y1 := blk_cell (i := 1) kp (by simp)
  have f0 := blk_frozen kp 0
  have f1 := blk_frozen kp 1
  -- what comes of it where nothing is put behind
  have HSAME : Hid (∀ V, V = (W1.setCell ⟨p + 1, 0, none⟩ (.slice (some ⟨g, 0, none⟩) cs.length k)).setCell ⟨p + 1, 1, none⟩ (.slice (some ⟨g', 0, none⟩) xs.length k') → V.heap[p + 1]? = some (.cells #[.slice (some ⟨g, 0, none⟩) cs.length k, .slice (some ⟨g', 0, none⟩) xs.length k'] 29 (0, 0)) ∧ DbIn w cs xs (.returned (.agg #[.slice (some ⟨g, 0, none⟩) cs.length k, .slice (some ⟨g', 0, none⟩) xs.length k'])) V) := by
    rintro V rfl
    obtain ⟨o2, o3, o4, o5, o6, o7, o8, o9, o10, o11⟩ := HO1.out
    have hpp := HPP.out
    have hbv : Below (p + 1) W1 ((W1.setCell ⟨p + 1, 0, none⟩ (.slice (some ⟨g, 0, none⟩) cs.length k)).setCell ⟨p + 1, 1, none⟩ (.slice (some ⟨g', 0, none⟩) xs.length k')) := below_set (below_set (Below.refl _ _) (Nat.le_refl _) _) (Nat.le_refl _) _
    have hbw : Below w.heap.size w ((W1.setCell ⟨p + 1, 0, none⟩ (.slice (some ⟨g, 0, none⟩) cs.length k)).setCell ⟨p + 1, 1, none⟩ (.slice (some ⟨g', 0, none⟩) xs.length k')) := by
      rw [← hpp]; exact o4.trans (hbv.mono (by omega))
    refine ⟨db_two HKP.out, _, _, rfl, vals_in (B := p + 2) (news := news) (row_keepB o2 fun b e => ?_) (HV.out.keep hbw), owns_ss (ownsRow_zero (row_keepB o3 fun b e => ?_)) HSZ.out.2.1, hbw⟩
    · obtain rfl : g = b := by simpa [Value.ownBlock] using e
      rw [blk_other _ (by omega), blk_other _ (by omega)]
    · obtain rfl : g' = b := by simpa [Value.ownBlock] using e
      rw [blk_other _ (by omega), blk_other _ (by omega)]
  have HIN : Hid (xs ≠ [] → ∃ b off, a2 = some ⟨b, off, none⟩ ∧ ∀ j (hj : j < xs.length), W1.cell? ⟨b, off + j, none⟩ = some (.string xs[j])) := fun hne => by
    obtain ⟨b, off, e, hc⟩ := hin hne
    refine ⟨b, off, e, fun j hj => cell_keep (hc j hj).1 ?_⟩
    have := HO1.out.2.2.1
    rw [HPP.out] at this
    exact this
  clear hin hs1 kp kb kq b1 hW1 hq HO
  go_wp2
  go_loopw [6] (fun v6 wr => Hid (wr = W1) ∧ ∃ j : Nat, j ≤ xs.length ∧ v6 = .int .i64 (j : Int) ∧ Hid (∀ k (hk : k < xs.length), k < j → xs[k] ≠ nm)) (fun i _ => xs.length - (intOf i).toNat)
  case atStart => exact ⟨rfl, 0, by omega, rfl, fun k _ hk => by omega⟩
  case round =>
    obtain ⟨HB, j, hj, rfl, HN⟩ := hrel
    obtain rfl := HB.out
    by_cases hlt : j < xs.length
    · obtain ⟨b, off, rfl, hc9⟩ := HIN.out (by intro e; subst e; simp at hlt)
      have hc := hc9 j hlt
      have HM : Hid (xs[j] ∈ xs) := List.getElem_mem hlt
      have HS : Hid (xs[j] ≠ nm → ∀ k (hk : k < xs.length), k < j + 1 → xs[k] ≠ nm) := fun hne k hk hkj => by
        by_cases e : k = j
        · subst e; exact hne
        · exact HN.out k hk (by omega)
      have hnl : xs.length ≤ 1048576 := HSZ.out.1
      clear hc9 HN HIN
      generalize xs[j] = xj at *
      by_cases e : xj = nm
      · subst e
        obtain rfl : R = xs := hR2 fun h => h.2 HM.out
        clear hR1 hR2
        go_wp2
        obtain ⟨r1, r2⟩ := HSAME.out _ rfl
        exact bodyPost_ret_by (results_cell_row rfl _ _ (p + 1) 29 _ (0, 0) _ rfl r1 Try.underlying29 rfl (by kernel_rfl)) rfl r2
      · have e' : ¬ nm = xj := fun h => e h.symm
        have e3 : (xj.toList == nm.toList) = false := by
          rw [beq_eq_false_iff_ne]
          intro h
          exact e' (by rw [← toL_mk nm, ← toL_mk xj, h])
        go_wp2
        go_roundw
        case rel => exact ⟨by first | exact rfl | exact trivial, j + 1, by omega, by go_num, HS.out e⟩
        case measure => simp [intOf]; omega
    · obtain rfl : j = xs.length := by omega
      have HNM : Hid (nm ∉ xs) := fun hm => by
        obtain ⟨k, hk, he⟩ := List.mem_iff_getElem.1 hm
        exact absurd he (HN.out k hk (by omega))
      clear HN HIN hlt hj
      by_cases hlt : xs.length < 40
      · have HR : Hid (R = xs ++ [nm]) := hR1 hlt HNM.out
        have hlt' : ((xs.length : Int)) < 40 := by omega
        clear hlt hR1 hR2 HSAME
        go_upto_region 8 with fail
        clear hlt'
        obtain ⟨i0, hi9, hz0, hz1, hz2⟩ := info_parts infoSt
        go_wp2_with (at_builtin; go_loud (refine wpList_append_own_at _ rfl _ _ 23 rfl (p + 2) 9 i0 (.string ⟨#[]⟩) 1 16 Try.underlying23 hi9 hz0 hz1 hz2 rfl (by decide) _ _ _ rfl (HO1.out.2.1.alloc _) ⟨wr.heap.size, 0, none⟩ 1 1 [.string nm] rfl rfl (cell_one_new _ _ _) ?c2 ?c3 ?c4 ?c5 ?_))
        case c2 => rfl
        case c3 => have := HSZ.out.1; unfold maxLen; omega
        case c4 => have := HSZ.out.1; omega
        case c5 => have := HO1.out; simp; omega
        intro v' w2 hown' hgrow _ hat
        obtain ⟨o2, o3, o4, o5, o6, o7, o8, o9, o10, o11⟩ := HO1.out
        have hpp := HPP.out
        obtain ⟨U, hU⟩ : ∃ U, U = wr.alloc (.cells #[.string nm] 9) := ⟨_, rfl⟩
        have bU : Below wr.heap.size wr U := by rw [hU]; exact (Below.refl _ _).alloc (Nat.le_refl _) _
        rw [← hU] at hgrow
        rw [show wr.heap.size + 1 = U.heap.size by rw [hU]; simp] at hat
        have hkp : ∀ k, k < wr.heap.size → k ≠ g' → w2.heap[k]? = wr.heap[k]? := fun k hk hne => (hgrow.block k (Nat.lt_of_lt_of_le hk bU.size) (by simp [Value.ownBlock]; exact hne)).trans (bU.block k hk)
        have hsz : wr.heap.size ≤ w2.heap.size := Nat.le_trans bU.size hgrow.size
        obtain ⟨g9, k9, rfl, hg9⟩ : ∃ g9 k9, v' = .slice (some ⟨g9, 0, none⟩) (xs.length + 1) k9 ∧ (g9 = g' ∨ wr.heap.size ≤ g9) := by
          rcases hown'.2 with ⟨_, h⟩ | ⟨g9, c9, cur9, e, _, _⟩
          · omega
          · refine ⟨g9, c9, e, ?_⟩
            rw [e] at hat
            rcases hat with h | h
            · exact Or.inl (by simpa [Value.ownBlock] using h)
            · obtain rfl : g9 = U.heap.size := by simpa [Value.ownBlock] using h
              exact Or.inr bU.size
        have hpl := (Array.getElem?_eq_some_iff.1 HKP.out).1
        have hgq : g9 ≠ q ∧ g9 ≠ p + 1 := by
          rcases hg9 with rfl | h
          · exact ⟨by omega, by omega⟩
          · exact ⟨by omega, by omega⟩
        have kq2 := (hkp q o11 (by omega)).trans HQ.out
        have kp2 := (hkp (p + 1) hpl (by omega)).trans HKP.out
        have hb2 : Below p w w2 := ⟨hgrow.os.trans (bU.os.trans o4.os), hgrow.tape.trans (bU.tape.trans o4.tape), hgrow.output.trans (bU.output.trans o4.output), Nat.le_trans o4.size hsz, fun k hk => (hkp k (by have := o4.size; omega) (by omega)).trans (o4.block k hk)⟩
        obtain ⟨V1, hV1⟩ : ∃ V1, V1 = w2.setCell ⟨q, 1, none⟩ (.slice (some ⟨g9, 0, none⟩) (xs.length + 1) k9) := ⟨_, rfl⟩
        have kq7 : V1.heap[q]? = some (.cells #[.slice (some ⟨g, 0, none⟩) cs.length k, .slice (some ⟨g9, 0, none⟩) (xs.length + 1) k9] 29 (0, 0)) := by rw [hV1]; simpa using blk_set (i := 1) kq2 (.slice (some ⟨g9, 0, none⟩) (xs.length + 1) k9)
        have kp7 : V1.heap[p + 1]? = some (.cells #[.slice none 0 0, .slice none 0 0] 29 (0, 0)) := by rw [hV1]; exact (blk_other _ (by omega)).trans kp2
        have HFIN : Hid (∀ V, V = (V1.setCell ⟨p + 1, 0, none⟩ (.slice (some ⟨g, 0, none⟩) cs.length k)).setCell ⟨p + 1, 1, none⟩ (.slice (some ⟨g9, 0, none⟩) (xs.length + 1) k9) → V.heap[p + 1]? = some (.cells #[.slice (some ⟨g, 0, none⟩) cs.length k, .slice (some ⟨g9, 0, none⟩) (xs.length + 1) k9] 29 (0, 0)) ∧ DbIn w cs R (.returned (.agg #[.slice (some ⟨g, 0, none⟩) cs.length k, .slice (some ⟨g9, 0, none⟩) (xs.length + 1) k9])) V) := by
          rintro V rfl
          rw [HR.out]
          have hle : (xs ++ [nm]).length = xs.length + 1 := by simp
          have hbv : Below p w ((V1.setCell ⟨p + 1, 0, none⟩ (.slice (some ⟨g, 0, none⟩) cs.length k)).setCell ⟨p + 1, 1, none⟩ (.slice (some ⟨g9, 0, none⟩) (xs.length + 1) k9)) := by
            refine below_set (below_set ?_ (by omega) _) (by omega) _
            rw [hV1]
            exact below_set hb2 (by omega) _
          rw [hpp] at hbv
          refine ⟨db_two kp7, _, _, rfl, vals_in (B := p + 2) (news := news) (row_keepB o2 fun b e => ?_) (HV.out.keep (by rw [← hpp] at hbv ⊢; exact hbv)), owns_ss (ownsRow_zero (B := p + 2) ?_) (fun x hx => ?_), by rw [← hpp] at hbv ⊢; exact hbv⟩
          · obtain rfl : g = b := by simpa [Value.ownBlock] using e
            rw [blk_other _ (by omega), blk_other _ (by omega), hV1, blk_other _ (by omega)]
            exact hkp g (by omega) (by omega)
          · rw [hle, List.map_append]
            refine row_keepB hown' fun b e => ?_
            obtain rfl : g9 = b := by simpa [Value.ownBlock] using e
            rw [blk_other _ (by omega), blk_other _ (by omega), hV1, blk_other _ (by omega)]
          · rcases List.mem_append.1 hx with hx | hx
            · exact HSZ.out.2.1 x hx
            · obtain rfl : x = nm := by simpa using hx
              exact HSZ.out.2.2
        clear z0 z1 y0 y1 f0 f1
        have x1 := blk_cell (i := 1) kq2 (by simp)
        have g1 := blk_frozen kq2 1
        have y0 := blk_cell (i := 0) kp7 (by simp)
        have y1 := blk_cell (i := 1) kp7 (by simp)
        have f0 := blk_frozen kp7 0
        have f1 := blk_frozen kp7 1
        have z0 := blk_cell (i := 0) kq7 (by simp)
        have z1 := blk_cell (i := 1) kq7 (by simp)
        clear o2 o3 o4 o5 o6 o7 o8 o9 o10 o11 hown' hgrow hat hkp hsz hg9 hpl hgq kq2 kp2 hb2 kq7 kp7 bU hU hpp
        go_upto_region 9 with fail
        rw [← hV1]
        clear hV1 x1 g1
        go_wp2
        obtain ⟨r1, r2⟩ := HFIN.out _ rfl
        exact bodyPost_ret_by (results_cell_row rfl _ _ (p + 1) 29 _ (0, 0) _ rfl r1 Try.underlying29 rfl (by kernel_rfl)) rfl r2
      · obtain rfl : R = xs := hR2 fun h => hlt h.1
        have hlt' : ¬ ((R.length : Int)) < 40 := by omega
        clear hlt hR1 hR2
        go_wp2
        obtain ⟨r1, r2⟩ := HSAME.out _ rfl
        exact bodyPost_ret_by (results_cell_row rfl _ _ (p + 1) 29 _ (0, 0) _ rfl r1 Try.underlying29 rfl (by kernel_rfl)) rfl r2
end Go.Proofs.Ytmhmlkdoaojimap

/- spec.Opened. -/
namespace Go.Proofs.Ytmhmlkdoaojimap
open Go.RowKit

set_option maxHeartbeats 8000000 in
set_option maxRecDepth 20000 in
theorem s_opened (cs : List Cla) (xs : List ByteArray) (nm : ByteArray) (w : World) (c0 c1 : Value) (h : ClsIn w cs c0) (hx : SsIn w xs c1) (hl1 : cs.length + claWts cs ≤ 1048576) (hl2 : xs.length + strWts xs ≤ 1048576) (hnm : nm.size ≤ 1048576) (R : List ByteArray) (hR1 : xs.length < 40 → nm ∉ xs → R = xs ++ [nm]) (hR2 : ¬ (xs.length < 40 ∧ nm ∉ xs) → R = xs) :
    Calls Try.prog 5 #[.agg #[c0, c1], .string nm] w (DbOut w cs R) := by
  obtain ⟨W, hW⟩ : ∃ W, W = (w.alloc (.cells #[c0, c1] 29)).alloc (.cells #[.slice none 0 0, .slice none 0 0] 29) := ⟨_, rfl⟩
  have bW : Below w.heap.size w W := by rw [hW]; exact ((Below.refl _ _).alloc (Nat.le_refl _) _).alloc (by simp) _
  have lW : W.heap.size = w.heap.size + 2 := by rw [hW]; simp
  have k1 : W.heap[w.heap.size]? = some (.cells #[c0, c1] 29 (0, 0)) := by rw [hW]; exact (alloc_old _ _ (by simp)).trans (alloc_at _ _ rfl)
  have k2 : W.heap[w.heap.size + 1]? = some (.cells #[.slice none 0 0, .slice none 0 0] 29 (0, 0)) := by rw [hW]; exact alloc_at _ _ (by simp)
  have hRl : R.length ≤ 1048577 ∧ (R.length ≤ 1048576) := by
    by_cases h9 : xs.length < 40 ∧ nm ∉ xs
    · rw [hR1 h9.1 h9.2]; simp; omega
    · rw [hR2 h9]; omega
  have HC : Hid _ := s_openedRaw cs xs nm W c0 c1 (h.keep bW) (hx.keep bW) (by omega) hl2 hnm R hR1 hR2
  have HL34 : Hid (∀ u sl ss, ClsIn u cs sl → SsIn u R ss → Calls Try.prog 14 #[.agg #[sl, ss]] u fun e w' => ∃ sl F g k, e = .returned (.agg #[sl, .slice (some ⟨g, 0, none⟩) R.length k]) ∧ OwnClS 56 54 w' cs sl F ∧ w'.ownsRow 0 9 1 (.slice (some ⟨g, 0, none⟩) R.length k) R.length (R.map Value.string) ∧
      (∀ f ∈ F, u.heap.size ≤ f) ∧ F.Nodup ∧ u.heap.size ≤ g ∧ g ∉ F ∧ Below u.heap.size u w') := fun u sl ss h1 h2 => l34_db cs R u sl ss h1 h2 (by omega) hRl.2
  obtain ⟨a2, p2, rfl, -⟩ := hx
  obtain ⟨a1, p1, rfl, -⟩ := h
  have HBW : Hid (Below w.heap.size w W) := bW
  obtain ⟨p, hp⟩ : ∃ p, p = w.heap.size := ⟨_, rfl⟩
  rw [← hp] at k1 k2 lW
  have HK : Hid (W.heap[p]? = _ ∧ W.heap[p + 1]? = _) := ⟨k1, k2⟩
  have HL : Hid (W.heap.size = p + 2) := lW
  have HPP : Hid (p = w.heap.size) := hp
  have y0 := blk_cell (i := 0) k1 (by simp)
  have y1 := blk_cell (i := 1) k1 (by simp)
  clear hl1 hl2 hnm bW lW k1 k2 hR1 hR2 hRl
  go_enter Try.func5, Try.ntmps5
  go_upto_region 1 with fail
  rw [← hW, ← hp]
  clear hW hp
  go_upto_region 2 with (go_at_call 13; refine (Calls.mono HC.out ?_); rintro e w1 ⟨sl, ss, rfl, o1, o2, o3⟩; have HO : Hid (ClsIn w1 cs sl ∧ SsIn w1 R ss ∧ Below W.heap.size W w1) := ⟨o1, o2, o3⟩; obtain ⟨a3, p3, rfl, -⟩ := o1; obtain ⟨a4, p4, rfl, -⟩ := o2; clear o3)
  clear y0 y1
  obtain ⟨W1, hW1⟩ : ∃ W1, W1 = w1.alloc (.cells #[.slice a3 cs.length p3, .slice a4 R.length p4] 29) := ⟨_, rfl⟩
  obtain ⟨q, hq⟩ : ∃ q, q = w1.heap.size := ⟨_, rfl⟩
  rw [← hW1, ← hq]
  have b1 : Below w1.heap.size w1 W1 := by rw [hW1]; exact (Below.refl _ _).alloc (Nat.le_refl _) _
  have kq : W1.heap[q]? = some (.cells #[.slice a3 cs.length p3, .slice a4 R.length p4] 29 (0, 0)) := by rw [hW1, hq]; exact heap_alloc_new _ _
  have hs1 := HO.out.2.2.size
  have kp : W1.heap[p + 1]? = some (.cells #[.slice none 0 0, .slice none 0 0] 29 (0, 0)) := (b1.block _ (by have := HL.out; omega)).trans ((HO.out.2.2.block _ (by have := HL.out; omega)).trans HK.out.2)
  have hbp : Below p w W1 := by
    have hbw := HBW.out
    rw [← HPP.out] at hbw
    exact (hbw.trans (HO.out.2.2.mono (by have := HL.out; omega))).trans (b1.mono (by have := HL.out; omega))
  have HB1 : Hid (Below p w W1 ∧ p + 2 ≤ W1.heap.size) := ⟨hbp, by have := HL.out; have := b1.size; omega⟩
  have HC2 : Hid _ := HL34.out W1 _ _ (HO.out.1.keep b1) (HO.out.2.1.keep b1)
  have HKP : Hid (W1.heap[p + 1]? = _) := kp
  have z0 := blk_cell (i := 0) kq (by simp)
  have z1 := blk_cell (i := 1) kq (by simp)
  clear hW1 hq b1 kq kp hbp hs1 HO HC HK HL34
  go_wp2_with (go_at_call 14; refine (Calls.mono HC2.out ?_); rintro e w2 ⟨sl, F, g, k, rfl, o1, o2, o3, o4, o5, o6, o7⟩; obtain ⟨a5, p5, rfl⟩ := ownClS_shape o1; have kp2 := (o7.block _ (Array.getElem?_eq_some_iff.1 HKP.out).1).trans HKP.out; have HKP2 : Hid (w2.heap[p + 1]? = _) := kp2; have HO2 : Hid (OwnClS 56 54 w2 cs (.slice a5 cs.length p5) F ∧ w2.ownsRow 0 9 1 (.slice (some ⟨g, 0, none⟩) R.length k) R.length (R.map Value.string) ∧ (∀ f ∈ F, W1.heap.size ≤ f) ∧ F.Nodup ∧ W1.heap.size ≤ g ∧ g ∉ F ∧ Below W1.heap.size W1 w2) := ⟨o1, o2, o3, o4, o5, o6, o7⟩; clear o1 o2 o3 o4 o5 o6 o7; have y0 := blk_cell (i := 0) kp2 (by simp); have y1 := blk_cell (i := 1) kp2 (by simp); have f0 := blk_frozen kp2 0; have f1 := blk_frozen kp2 1; clear kp2)
  refine bodyPost_ret_by (results_cell_row rfl _ _ (p + 1) 29 _ (0, 0) _ rfl (db_two HKP2.out) Try.underlying29 rfl (by kernel_rfl)) rfl ?_
  obtain ⟨o1, o2, o3, o4, o5, o6, o7⟩ := HO2.out
  obtain ⟨b1, b2⟩ := HB1.out
  have hpp := HPP.out
  have hbp : Below p w w2 := b1.trans (o7.mono (by omega))
  have hkk : ∀ d0 d1 (f : Nat), f ≠ p + 1 → ((w2.setCell ⟨p + 1, 0, none⟩ d0).setCell ⟨p + 1, 1, none⟩ d1).heap[f]? = w2.heap[f]? := fun d0 d1 f hf => by rw [blk_other _ hf, blk_other _ hf]
  have hbv : ∀ d0 d1, Below w.heap.size w ((w2.setCell ⟨p + 1, 0, none⟩ d0).setCell ⟨p + 1, 1, none⟩ d1) := fun d0 d1 => by rw [← hpp]; exact below_set (below_set hbp (by omega) _) (by omega) _
  exact ⟨_, F, k, g, rfl, OwnClS.keep o1 fun f hf => hkk _ _ f (by have := o3 f hf; omega), row_keep o2 (hkk _ _ g (by omega)), fun f hf => by have := o3 f hf; omega, o4, by omega, o6, hbv _ _⟩
end Go.Proofs.Ytmhmlkdoaojimap

/- Rows of terms that are copied: what is copied, and what the copies come to. Of no program. -/
namespace Go.Proofs.Ytmhmlkdoaojimap
open Go.RowKit

/-- a row: its block, how many terms, its cells -/
abbrev Row := Nat × Nat × List Value

mutual
/-- the value v is the term in w; its rows that are not empty, each in a block of its own -/
def Src (e : TypeId) (w : World) : Tm → Value → List Row → Prop
  | .mk k s n ks, v, R => ∃ ao cap, v = .agg #[.int .i64 k, .string s, .int .i64 n, .slice ao ks.length cap] ∧ (-9223372036854775808 ≤ k ∧ k ≤ 9223372036854775807) ∧ (-9223372036854775808 ≤ n ∧ n ≤ 9223372036854775807) ∧ s.size ≤ maxLen ∧
    ((ks = [] ∧ R = []) ∨ ∃ g cs R', ks ≠ [] ∧ ao = some ⟨g, 0, none⟩ ∧ w.ownsRow 0 e 4 (.slice (some ⟨g, 0, none⟩) ks.length cap) ks.length cs ∧ R = (g, ks.length, cs) :: R' ∧ SrcRow e w ks cs R')
def SrcRow (e : TypeId) (w : World) : List Tm → List Value → List Row → Prop
  | [], cs, R => cs = [] ∧ R = []
  | t :: ts, cs, R => ∃ c0 c1 c2 c3 cs' R1 R2, cs = c0 :: c1 :: c2 :: c3 :: cs' ∧ R = R1 ++ R2 ∧ Src e w t (.agg #[c0, c1, c2, c3]) R1 ∧ SrcRow e w ts cs' R2
end

mutual
theorem own_src {e : TypeId} {w : World} : ∀ (t : Tm) (v : Value) (F : List Nat), Own e w t v F → ∃ R, Src e w t v R ∧ (R.map (·.1)).Sublist F
  | .mk k s n ks, v, F, h => by
    unfold Own at h
    obtain ⟨sl, rfl, h1, h2, h3, h4⟩ := h
    rcases h4 with ⟨rfl, rfl, rfl⟩ | ⟨g, cap, cs, F', rfl, h5, rfl, h6⟩
    · exact ⟨[], by unfold Src; exact ⟨none, 0, rfl, h1, h2, h3, Or.inl ⟨rfl, rfl⟩⟩, List.Sublist.refl _⟩
    · by_cases h0 : ks = []
      · subst h0
        exact ⟨[], by unfold Src; exact ⟨_, _, rfl, h1, h2, h3, Or.inl ⟨rfl, rfl⟩⟩, List.nil_sublist _⟩
      · obtain ⟨R, hR, hs⟩ := ownRow_src ks cs F' h6
        exact ⟨(g, ks.length, cs) :: R, by unfold Src; exact ⟨_, _, rfl, h1, h2, h3, Or.inr ⟨g, cs, R, h0, rfl, h5, rfl, hR⟩⟩, by simpa using hs.cons_cons g⟩
theorem ownRow_src {e : TypeId} {w : World} : ∀ (ks : List Tm) (cs : List Value) (F : List Nat), OwnRow e w ks cs F → ∃ R, SrcRow e w ks cs R ∧ (R.map (·.1)).Sublist F
  | [], cs, F, h => by
    unfold OwnRow at h
    obtain ⟨rfl, rfl⟩ := h
    exact ⟨[], by unfold SrcRow; exact ⟨rfl, rfl⟩, List.Sublist.refl _⟩
  | t :: ts, cs, F, h => by
    unfold OwnRow at h
    obtain ⟨c0, c1, c2, c3, cs', F1, F2, rfl, rfl, h1, h2⟩ := h
    obtain ⟨R1, a1, a2⟩ := own_src t _ F1 h1
    obtain ⟨R2, b1, b2⟩ := ownRow_src ts cs' F2 h2
    exact ⟨R1 ++ R2, by unfold SrcRow; exact ⟨c0, c1, c2, c3, cs', R1, R2, rfl, rfl, a1, b1⟩, by rw [List.map_append]; exact a2.append b2⟩
end

mutual
theorem Src.keep {e : TypeId} {w w' : World} : ∀ (t : Tm) (v : Value) (R : List Row), Src e w t v R → (∀ r ∈ R, w'.heap[r.1]? = w.heap[r.1]?) → Src e w' t v R
  | .mk k s n ks, v, R, h, hF => by
    unfold Src at h ⊢
    obtain ⟨ao, cap, rfl, h1, h2, h3, h4⟩ := h
    refine ⟨ao, cap, rfl, h1, h2, h3, ?_⟩
    rcases h4 with h4 | ⟨g, cs, R', h0, rfl, h5, rfl, h6⟩
    · exact Or.inl h4
    · exact Or.inr ⟨g, cs, R', h0, rfl, row_keep h5 (hF (g, ks.length, cs) (by simp)), rfl, SrcRow.keep ks cs R' h6 (fun r hr => hF r (by simp [hr]))⟩
theorem SrcRow.keep {e : TypeId} {w w' : World} : ∀ (ks : List Tm) (cs : List Value) (R : List Row), SrcRow e w ks cs R → (∀ r ∈ R, w'.heap[r.1]? = w.heap[r.1]?) → SrcRow e w' ks cs R
  | [], _, _, h, _ => by unfold SrcRow at h ⊢; exact h
  | t :: ts, cs, R, h, hF => by
    unfold SrcRow at h ⊢
    obtain ⟨c0, c1, c2, c3, cs', R1, R2, rfl, rfl, h1, h2⟩ := h
    exact ⟨c0, c1, c2, c3, cs', R1, R2, rfl, rfl, Src.keep t _ R1 h1 (fun f hf => hF f (by simp [hf])), SrcRow.keep ts cs' R2 h2 (fun f hf => hF f (by simp [hf]))⟩
end

/-- a row's block is one of cells, of that length -/
def RowIn (e : TypeId) (w : World) (r : Row) : Prop := ∃ cap, w.ownsRow 0 e 4 (.slice (some ⟨r.1, 0, none⟩) r.2.1 cap) r.2.1 r.2.2

mutual
theorem Src.rows {e : TypeId} {w : World} : ∀ (t : Tm) (v : Value) (R : List Row), Src e w t v R → (∀ r ∈ R, RowIn e w r) ∧ (R.map (·.2.1)).sum ≤ t.wt
  | .mk k s n ks, v, R, h => by
    unfold Src at h
    obtain ⟨ao, cap, rfl, h1, h2, h3, h4⟩ := h
    have ew : (Tm.mk k s n ks).wt = s.size + (ks.length + wts ks) := by simp [Tm.wt, wts]; omega
    rw [ew]
    rcases h4 with ⟨rfl, rfl⟩ | ⟨g, cs, R', h0, rfl, h5, rfl, h6⟩
    · exact ⟨by simp, by simp⟩
    · obtain ⟨a1, a2⟩ := SrcRow.rows ks cs R' h6
      refine ⟨fun r hr => ?_, by simp; omega⟩
      rcases List.mem_cons.1 hr with rfl | hr
      · exact ⟨cap, h5⟩
      · exact a1 r hr
theorem SrcRow.rows {e : TypeId} {w : World} : ∀ (ks : List Tm) (cs : List Value) (R : List Row), SrcRow e w ks cs R → (∀ r ∈ R, RowIn e w r) ∧ (R.map (·.2.1)).sum ≤ wts ks
  | [], _, _, h => by unfold SrcRow at h; obtain ⟨_, rfl⟩ := h; exact ⟨by simp, by simp⟩
  | t :: ts, cs, R, h => by
    unfold SrcRow at h
    obtain ⟨c0, c1, c2, c3, cs', R1, R2, rfl, rfl, h1, h2⟩ := h
    obtain ⟨a1, a2⟩ := Src.rows t _ R1 h1
    obtain ⟨b1, b2⟩ := SrcRow.rows ts cs' R2 h2
    refine ⟨fun r hr => ?_, ?_⟩
    · rcases List.mem_append.1 hr with hr | hr
      · exact a1 r hr
      · exact b1 r hr
    · rw [List.map_append, List.sum_append]
      show _ ≤ Tm.wt.wts (t :: ts)
      simp only [Tm.wt.wts]
      unfold wts at b2
      omega
end

/-- the cells of a row: four a term, their texts no longer than they weigh -/
def CellsOk (cs : List Value) (n L : Nat) : Prop := cs.length = n * 4 ∧ ∀ j, j < n → ∃ k s i ao m cap, cs[j * 4]? = some (.int .i64 k) ∧ cs[j * 4 + 1]? = some (.string s) ∧ cs[j * 4 + 2]? = some (.int .i64 i) ∧ cs[j * 4 + 3]? = some (.slice ao m cap) ∧ s.size ≤ L

theorem srcRow_cells {e : TypeId} {w : World} (L : Nat) : ∀ (ks : List Tm) (cs : List Value) (R : List Row), SrcRow e w ks cs R → wts ks ≤ L → CellsOk cs ks.length L
  | [], _, _, h, _ => by unfold SrcRow at h; obtain ⟨rfl, rfl⟩ := h; exact ⟨rfl, fun j hj => by simp at hj⟩
  | t :: ts, cs, R, h, hw => by
    unfold SrcRow at h
    obtain ⟨c0, c1, c2, c3, cs', R1, R2, rfl, rfl, h1, h2⟩ := h
    have e1 : wts (t :: ts) = t.wt + wts ts := by simp [wts, Tm.wt.wts]
    rw [e1] at hw
    obtain ⟨a1, a2⟩ := srcRow_cells L ts cs' R2 h2 (by omega)
    obtain ⟨k, s, n, ks⟩ := t
    have ew : (Tm.mk k s n ks).wt = s.size + (ks.length + wts ks) := by simp [Tm.wt, wts]; omega
    unfold Src at h1
    obtain ⟨ao, cap, he, _⟩ := h1
    obtain ⟨rfl, rfl, rfl, rfl⟩ : c0 = .int .i64 k ∧ c1 = .string s ∧ c2 = .int .i64 n ∧ c3 = .slice ao ks.length cap := by simpa using he
    refine ⟨by simp only [List.length_cons, a1]; omega, fun j hj => ?_⟩
    cases j with
    | zero => exact ⟨k, s, n, ao, ks.length, cap, rfl, rfl, rfl, rfl, by omega⟩
    | succ j =>
      obtain ⟨k', s', i', ao', m', cap', b1, b2, b3, b4, b5⟩ := a2 j (by simpa using hj)
      refine ⟨k', s', i', ao', m', cap', ?_, ?_, ?_, ?_, b5⟩
      · rw [show (j + 1) * 4 = j * 4 + 1 + 1 + 1 + 1 by omega]; simpa using b1
      · rw [show (j + 1) * 4 + 1 = j * 4 + 1 + 1 + 1 + 1 + 1 by omega]; simpa using b2
      · rw [show (j + 1) * 4 + 2 = j * 4 + 2 + 1 + 1 + 1 + 1 by omega]; simpa using b3
      · rw [show (j + 1) * 4 + 3 = j * 4 + 3 + 1 + 1 + 1 + 1 by omega]; simpa using b4

mutual
theorem Src.all {e : TypeId} {w : World} (L : Nat) : ∀ (t : Tm) (v : Value) (R : List Row), Src e w t v R → t.wt ≤ L → ∀ r ∈ R, CellsOk r.2.2 r.2.1 L ∧ 0 < r.2.1
  | .mk k s n ks, v, R, h, hL => by
    unfold Src at h
    obtain ⟨ao, cap, rfl, h1, h2, h3, h4⟩ := h
    have ew : (Tm.mk k s n ks).wt = s.size + (ks.length + wts ks) := by simp [Tm.wt, wts]; omega
    rw [ew] at hL
    rcases h4 with ⟨rfl, rfl⟩ | ⟨g, cs, R', h0, rfl, h5, rfl, h6⟩
    · intro r hr; cases hr
    · intro r hr
      rcases List.mem_cons.1 hr with rfl | hr
      · exact ⟨srcRow_cells L ks cs R' h6 (by omega), by cases ks with | nil => exact absurd rfl h0 | cons _ _ => simp⟩
      · exact SrcRow.all L ks cs R' h6 (by omega) r hr
theorem SrcRow.all {e : TypeId} {w : World} (L : Nat) : ∀ (ks : List Tm) (cs : List Value) (R : List Row), SrcRow e w ks cs R → wts ks ≤ L → ∀ r ∈ R, CellsOk r.2.2 r.2.1 L ∧ 0 < r.2.1
  | [], _, _, h, _ => by unfold SrcRow at h; obtain ⟨_, rfl⟩ := h; intro r hr; cases hr
  | t :: ts, cs, R, h, hL => by
    unfold SrcRow at h
    obtain ⟨c0, c1, c2, c3, cs', R1, R2, rfl, rfl, h1, h2⟩ := h
    have e1 : wts (t :: ts) = t.wt + wts ts := by simp [wts, Tm.wt.wts]
    rw [e1] at hL
    intro r hr
    rcases List.mem_append.1 hr with hr | hr
    · exact Src.all L t _ R1 h1 (by omega) r hr
    · exact SrcRow.all L ts cs' R2 h2 (by omega) r hr
end
theorem rows_len : ∀ (R : List Row), (∀ r ∈ R, 0 < r.2.1) → R.length ≤ (R.map (·.2.1)).sum
  | [], _ => by simp
  | r :: R, h => by
    have := rows_len R fun r' hr => h r' (by simp [hr])
    have := h r (by simp)
    simp only [List.length_cons, List.map_cons, List.sum_cons]
    omega

/-- a cell of the copy: a list that is not empty is another block's -/
def cpV (gg cc : Nat → Nat) : Value → Value
  | .slice (some a) (n + 1) _ => .slice (some ⟨gg a.block, 0, none⟩) (n + 1) (cc a.block)
  | .slice _ _ _ => .slice none 0 0
  | v => v

theorem cpV_nil (gg cc : Nat → Nat) (ao : Option Addr) (cap : Nat) : cpV gg cc (.slice ao 0 cap) = .slice none 0 0 := by
  cases ao <;> rfl
theorem cpV_some (gg cc : Nat → Nat) (a : Addr) (n cap : Nat) (h : 0 < n) : cpV gg cc (.slice (some a) n cap) = .slice (some ⟨gg a.block, 0, none⟩) n (cc a.block) := by
  obtain ⟨m, rfl⟩ : ∃ m, n = m + 1 := ⟨n - 1, by omega⟩
  rfl

mutual
theorem Src.copied {e : TypeId} {w0 w : World} (gg cc : Nat → Nat) : ∀ (t : Tm) (v : Value) (R : List Row), Src e w0 t v R → (∀ r ∈ R, w.ownsRow 0 e 4 (.slice (some ⟨gg r.1, 0, none⟩) r.2.1 (cc r.1)) r.2.1 (r.2.2.map (cpV gg cc))) →
    ∀ c0 c1 c2 c3, v = .agg #[c0, c1, c2, c3] → Own e w t (.agg #[cpV gg cc c0, cpV gg cc c1, cpV gg cc c2, cpV gg cc c3]) (R.map fun r => gg r.1)
  | .mk k s n ks, v, R, h, hR, c0, c1, c2, c3, hv => by
    unfold Src at h
    obtain ⟨ao, cap, rfl, h1, h2, h3, h4⟩ := h
    obtain ⟨rfl, rfl, rfl, rfl⟩ : .int .i64 k = c0 ∧ .string s = c1 ∧ .int .i64 n = c2 ∧ .slice ao ks.length cap = c3 := by simpa using hv
    unfold Own
    refine ⟨cpV gg cc (.slice ao ks.length cap), rfl, h1, h2, h3, ?_⟩
    rcases h4 with ⟨rfl, rfl⟩ | ⟨g, cs, R', h0, rfl, h5, rfl, h6⟩
    · exact Or.inl ⟨cpV_nil _ _ _ _, rfl, rfl⟩
    · have hl : 0 < ks.length := by cases ks with | nil => exact absurd rfl h0 | cons _ _ => simp
      rw [cpV_some _ _ _ _ _ hl]
      exact Or.inr ⟨gg g, cc g, cs.map (cpV gg cc), R'.map fun r => gg r.1, rfl, hR (g, ks.length, cs) (by simp), by simp, SrcRow.copied gg cc ks cs R' h6 fun r hr => hR r (by simp [hr])⟩
theorem SrcRow.copied {e : TypeId} {w0 w : World} (gg cc : Nat → Nat) : ∀ (ks : List Tm) (cs : List Value) (R : List Row), SrcRow e w0 ks cs R → (∀ r ∈ R, w.ownsRow 0 e 4 (.slice (some ⟨gg r.1, 0, none⟩) r.2.1 (cc r.1)) r.2.1 (r.2.2.map (cpV gg cc))) →
    OwnRow e w ks (cs.map (cpV gg cc)) (R.map fun r => gg r.1)
  | [], _, _, h, _ => by unfold SrcRow at h; obtain ⟨rfl, rfl⟩ := h; unfold OwnRow; exact ⟨rfl, rfl⟩
  | t :: ts, cs, R, h, hR => by
    unfold SrcRow at h
    obtain ⟨c0, c1, c2, c3, cs', R1, R2, rfl, rfl, h1, h2⟩ := h
    unfold OwnRow
    exact ⟨cpV gg cc c0, cpV gg cc c1, cpV gg cc c2, cpV gg cc c3, cs'.map (cpV gg cc), R1.map (fun r => gg r.1), R2.map (fun r => gg r.1), rfl, by rw [List.map_append],
      Src.copied gg cc t _ R1 h1 (fun r hr => hR r (by simp [hr])) c0 c1 c2 c3 rfl, SrcRow.copied gg cc ts cs' R2 h2 fun r hr => hR r (by simp [hr])⟩
end
end Go.Proofs.Ytmhmlkdoaojimap

/- slices.Clone of a row of terms: the same cells in a row of its own. -/
namespace Go.Proofs.Ytmhmlkdoaojimap
open Go.RowKit

theorem infoTC : (Try.prog.info? 54).map (fun i => (i.zero, i.size, i.bytes)) = some (some (.agg #[.int .i64 0, .string ⟨#[]⟩, .int .i64 0, .slice none 0 0]), 4, 56) := by kernel_rfl

theorem cellsOk_one {cs : List Value} {n L : Nat} (h : CellsOk cs n L) : ∀ u ∈ cs, u.oneCell' = true := by
  intro u hu
  obtain ⟨i, hi, rfl⟩ := List.getElem_of_mem hu
  have hl := h.1
  obtain ⟨k, s, i', ao, m, cap, b1, b2, b3, b4, b5⟩ := h.2 (i / 4) (by omega)
  have : i = i / 4 * 4 ∨ i = i / 4 * 4 + 1 ∨ i = i / 4 * 4 + 2 ∨ i = i / 4 * 4 + 3 := by omega
  have e : cs[i]? = some cs[i] := List.getElem?_eq_getElem hi
  rcases this with h | h | h | h
  · rw [← h, e] at b1; simp at b1; rw [b1]; rfl
  · rw [← h, e] at b2; simp at b2; rw [b2]; rfl
  · rw [← h, e] at b3; simp at b3; rw [b3]; rfl
  · rw [← h, e] at b4; simp at b4; rw [b4]; rfl

theorem slice_eql_nil (w : World) (a : Addr) (n cap : Nat) : (binOp .eql 52 (.slice (some a) n cap) (.slice none 0 0)).run Try.prog w = .ok (.bool false) w := by kernel_rfl

set_option maxHeartbeats 1000000 in
theorem clone_row (w : World) (b n cap L : Nat) (cs : List Value) (hrow : w.ownsRow 0 54 4 (.slice (some ⟨b, 0, none⟩) n cap) n cs) (hn : 0 < n) (hn2 : n ≤ 4194304) (hc : CellsOk cs n L) :
    Calls Try.prog 55 #[.slice (some ⟨b, 0, none⟩) n cap] w fun e w' => ∃ g cap', e = .returned (.slice (some ⟨g, 0, none⟩) n cap') ∧ w'.ownsRow 0 54 4 (.slice (some ⟨g, 0, none⟩) n cap') n cs ∧ w.heap.size ≤ g ∧ Below w.heap.size w w' := by
  obtain ⟨i0, hi, hz0, hz1, hz2⟩ := info_parts infoTC
  have HONE : Hid (∀ u ∈ cs, u.oneCell' = true) := cellsOk_one hc
  have HL : Hid (cs.length = n * 4) := hc.1
  have HCELL : Hid (∀ j u, cs[j]? = some u → (w.alloc (.cells #[] 54)).cell? ((⟨b, 0, none⟩ : Addr).add j) = some u) := fun j u hj => by
    have hjl : j < cs.length := (List.getElem?_eq_some_iff.1 hj).1
    have h1 := hrow.cellAt j (by rw [← hrow.1]; exact hjl)
    have hlt := (hrow.lt b rfl).2
    rw [Addr.add_lit, Nat.zero_add]
    exact cell_keep (h1.trans hj) ((Below.refl _ _).alloc (Nat.le_refl _) _)
  have hnil := fun w => slice_eql_nil w ⟨b, 0, none⟩ n cap
  have hown0 : (w.alloc (.cells #[] 54)).ownsRow w.heap.size 54 4 (.slice (some ⟨w.heap.size, 0, none⟩) 0 0) 0 [] := ⟨by simp, Or.inr ⟨w.heap.size, 0, #[], rfl, Nat.le_refl _, heap_alloc_new w _, Nat.le_refl _, Nat.zero_le _, rfl, rfl⟩⟩
  have HOWN : Hid _ := hown0
  clear hc hrow hown0
  go_enter Try.func55, Try.ntmps55
  go_wp2_with (at_builtin; refine wpList_append_own_at _ rfl _ _ 52 rfl w.heap.size 54 i0 (.agg #[.int .i64 0, .string ⟨#[]⟩, .int .i64 0, .slice none 0 0]) 4 56 Try.underlying52 hi hz0 hz1 hz2 rfl (by decide) _ _ _ rfl HOWN.out ⟨b, 0, none⟩ n cap cs rfl HL.out HCELL.out HONE.out ?c3 ?c4 ?c5 ?_)
  case c3 => unfold maxLen; omega
  case c4 => omega
  · intro v' w5 hown' hgrow _ hat
    have HFIN : Hid (∃ g cap', v' = .slice (some ⟨g, 0, none⟩) n cap' ∧ w5.ownsRow 0 54 4 (.slice (some ⟨g, 0, none⟩) n cap') n cs ∧ w.heap.size ≤ g ∧ Below w.heap.size w w5) := by
      rcases hown'.2 with ⟨_, h⟩ | ⟨g, cap', cur, rfl, h1, h2, h3⟩
      · omega
      · refine ⟨g, cap', rfl, ⟨hown'.1, Or.inr ⟨g, cap', cur, rfl, Nat.zero_le _, h2, h3⟩⟩, h1, ?_⟩
        have hb0 : Below w.heap.size w (w.alloc (.cells #[] 54)) := (Below.refl _ _).alloc (Nat.le_refl _) _
        refine ⟨hgrow.os.trans hb0.os, hgrow.tape.trans hb0.tape, hgrow.output.trans hb0.output, Nat.le_trans hb0.size hgrow.size, fun k hk => (hgrow.block k (by simp; omega) ?_).trans (hb0.block k hk)⟩
        simp [Value.ownBlock]; omega
    clear hown' hgrow hat HOWN HCELL HONE HL
    obtain ⟨g, cap', rfl, r1, r2, r3⟩ := HFIN.out
    go_wp2
    go_ret
    exact ⟨g, cap', rfl, r1, r2, r3⟩
end Go.Proofs.Ytmhmlkdoaojimap
