/- spec.l34Term, spec.l34Terms: a copy in memory of its own. -/
import Derived.Test.YtdcphfcenaafbamRows
import Derived.Test.YtdcphfcenaafbamOutS
import Derived.Test.YtdcphfcenaafbamTmTo
import Derived.Laws.AppendOwn
import Derived.ProofKit
namespace Go.Proofs.Ytdcphfcenaafbam
open Go.RowKit

def L34Ok (t : Tm) : Prop := ∀ (w : World) (v : Value), TmIn w t v → t.wt ≤ 1048576 →
  Calls Try.prog 30 #[v] w fun e w' => ∃ v' F, e = .returned v' ∧ Own 28 w' t v' F ∧ (∀ f ∈ F, w.heap.size ≤ f) ∧ F.Nodup ∧ Below w.heap.size w w'

set_option maxRecDepth 20000 in
theorem l34_terms (ks : List Tm) (hks : ∀ t ∈ ks, L34Ok t) (w : World) (ao : Option Addr) (cap : Nat) (hlen : ks.length + wts ks ≤ 1048576) (h : ks ≠ [] → ∃ b off, ao = some ⟨b, off, none⟩ ∧ TmsIn w ks b off) :
    Calls Try.prog 53 #[.slice ao ks.length cap] w fun e w' => ∃ sl F, e = .returned sl ∧ OwnS 28 w' ks sl F ∧ (∀ f ∈ F, w.heap.size ≤ f) ∧ F.Nodup ∧ Below w.heap.size w w' := by
  obtain ⟨i0, hi, hz0, hz1, hz2⟩ := info_parts infoT
  go_enter Try.func53, Try.ntmps53
  go_wp2
  go_loopw [3, 4] (fun vo vi wr => ∃ (j : Nat) (F : List Nat) (v : Value), j ≤ ks.length ∧ vi = .int .i64 (j : Int) ∧ v = vo ∧ Hid (Below w.heap.size w wr) ∧ Hid (OutS 28 wr w.heap.size (ks.take j) v F)) (fun _ i _ => ks.length - (intOf i).toNat)
  case atStart =>
    exact ⟨0, [], _, by omega, rfl, rfl, (Below.refl _ _).alloc (Nat.le_refl _) _, outS_new (Nat.le_refl _) 0 (Nat.zero_le _) _ rfl⟩
  case round =>
    obtain ⟨j, F, vo, hj, rfl, rfl, HB, HO⟩ := hrel
    by_cases hlt : j < ks.length
    · obtain ⟨b, off, rfl, hin⟩ := h (by intro e; subst e; simp at hlt)
      obtain ⟨c0, c1, c2, c3, h0, h1, h2, h3, ht⟩ := (TmsIn.keep HB.out ks b off hin).at j hlt
      have hwj := wt_le (List.getElem_mem hlt)
      have HC : Hid _ := hks ks[j] (List.getElem_mem hlt) wr _ ht (by omega)
      obtain ⟨g, cp, rfl, hBg, hgl, _, _⟩ := HO.out.shape
      have hl : (ks.take j).length = j := by rw [List.length_take]; omega
      rw [hl]
      have HK : Hid (∀ w1, Below wr.heap.size wr w1 → ∃ cs, w1.ownsRow w.heap.size 28 4 (.slice (some ⟨g, 0, none⟩) j cp) j cs ∧ OwnRow 28 w1 (ks.take j) cs F ∧ (∀ f ∈ F, w.heap.size ≤ f) ∧ (g :: F).Nodup ∧ (∀ f ∈ g :: F, f < wr.heap.size)) := fun w1 hb => by
        have hlt' := HO.out.lt
        obtain ⟨cs, g', q1, q2, q3, q4, q5, q6⟩ := HO.out.keep fun k _ hk => hb.block k hk
        obtain rfl : g = g' := by simpa [Value.ownBlock] using q2
        rw [hl] at q1
        refine ⟨cs, q1, q3, q4, q6, fun f hf => ?_⟩
        rcases List.mem_cons.1 hf with rfl | hf
        · exact hlt'.2 _ rfl
        · exact hlt'.1 f hf
      have hszw := HB.out.size
      clear hin ht h hks hl
      go_wp2_with (first
        | (go_at_call 30; refine (Calls.mono HC.out ?_); rintro e w1 ⟨v', F2, rfl, hown, hfr, hnd, hb⟩; obtain ⟨k', s', n', ao', len', cap', rfl⟩ := own_shape hown; have HOWN : Hid (Own 28 w1 ks[j] (.agg #[.int .i64 k', .string s', .int .i64 n', .slice ao' len' cap']) F2) := hown; have HFR : Hid (∀ f ∈ F2, wr.heap.size ≤ f) := hfr; have HND : Hid (F2.Nodup) := hnd; have HBB : Hid (Below wr.heap.size wr w1) := hb; have hsz1 := hb.size; obtain ⟨cs, q1, q3, q4, q6, q7⟩ := HK.out w1 hb; have Q1 : Hid (w1.ownsRow w.heap.size 28 4 (.slice (some ⟨g, 0, none⟩) j cp) j cs) := q1; have Q3 : Hid (OwnRow 28 w1 (ks.take j) cs F) := q3; have Q4 : Hid (∀ f ∈ F, w.heap.size ≤ f) := q4; have Q6 : Hid ((g :: F).Nodup) := q6; have Q7 : Hid (∀ f ∈ g :: F, f < wr.heap.size) := q7; clear q1 q3 q4 q6 q7 hown hfr hb hnd)
        | (at_builtin; go_loud (refine wpList_append_own_at _ rfl _ _ 26 rfl w.heap.size 28 i0 (.agg #[.int .i64 0, .string ⟨#[]⟩, .int .i64 0, .slice none 0 0]) 4 56 Try.underlying26 hi hz0 hz1 hz2 rfl (by decide) _ _ _ rfl (Q1.out.alloc _) ⟨w1.heap.size, 0, none⟩ 1 1 [.int .i64 k', .string s', .int .i64 n', .slice ao' len' cap'] rfl rfl ?c1 ?c2 ?c3 ?c4 ?c5 ?_)))
      case c1 =>
        intro j z hj
        match j, hj with
        | 0, hj => simp at hj; subst hj; simp [Addr.add]
        | 1, hj => simp at hj; subst hj; simp [Addr.add]
        | 2, hj => simp at hj; subst hj; simp [Addr.add]
        | 3, hj => simp at hj; subst hj; simp [Addr.add]
      case c2 => intro z hz; simp at hz; rcases hz with rfl | rfl | rfl | rfl <;> rfl
      case c3 => unfold maxLen; omega
      case c4 => omega
      case c5 => simp; omega
      · intro v' w2 hown' hgrow _ hat
        obtain ⟨W, hW⟩ : ∃ W, W = w1.alloc (.cells #[.int .i64 k', .string s', .int .i64 n', .slice ao' len' cap'] 28) := ⟨_, rfl⟩
        rw [← hW] at hgrow
        rw [show w1.heap.size + 1 = W.heap.size by rw [hW]; simp] at hat
        have bW : Below w1.heap.size w1 W := by rw [hW]; exact (Below.refl _ _).alloc (Nat.le_refl _) _
        have HFIN : Hid (OutS 28 w2 w.heap.size (ks.take j ++ [ks[j]]) v' (F ++ F2)) := by
          have q7 := Q7.out
          refine OutS.push (w1 := W) (g := g) (cs := cs) ?_ rfl (OwnRow.keep _ _ _ Q3.out fun f hf => bW.block f (OwnRow.lt _ _ _ Q3.out f hf)) Q4.out hBg Q6.out (Own.keep _ _ _ HOWN.out fun f hf => bW.block f (Own.lt _ _ _ HOWN.out f hf)) (fun f hf => by have := HFR.out f hf; omega) HND.out (fun f hf h' => by have := HFR.out f hf; have := q7 f h'; omega) ?_ hgrow hat
          · rw [List.length_take, Nat.min_eq_left hj, hW]; exact World.ownsRow.alloc Q1.out _
          · rw [List.length_take, Nat.min_eq_left hj]; exact hown'
        have HBN : Hid (Below w.heap.size w w2) := by
          have b1 : Below w.heap.size w W := (HB.out.trans (HBB.out.mono hszw)).trans (bW.mono (by omega))
          refine ⟨hgrow.os.trans b1.os, hgrow.tape.trans b1.tape, hgrow.output.trans b1.output, Nat.le_trans b1.size hgrow.size, fun k hk => ?_⟩
          rw [hgrow.block k (Nat.lt_of_lt_of_le hk b1.size) (by intro e; have : k = g := by simpa [Value.ownBlock] using e
                                                                omega)]
          exact b1.block k hk
        clear hown' hgrow hat Q1 Q3 Q4 Q6 Q7 HOWN HFR HND HBB bW hW
        go_wp2
        go_roundw
        case rel => exact ⟨j + 1, _, _, by omega, by go_num, rfl, HBN.out, by rw [List.take_succ_eq_append_getElem hlt]; exact HFIN.out⟩
        case measure => simp [intOf]; omega
    · have HE : Hid (OutS 28 wr w.heap.size ks vo F) := by
        have := HO.out
        rw [List.take_of_length_le (by omega)] at this
        exact this
      obtain ⟨g, cp, rfl, _⟩ := HE.out.shape
      clear HO
      go_wp2
      go_ret
      obtain ⟨F', q1, q2, q3⟩ := HE.out.own
      exact ⟨_, F', rfl, q1, q2, q3, HB.out⟩

set_option maxRecDepth 20000 in
theorem l34_term (t : Tm) : L34Ok t := by
  refine tm_ind (p := L34Ok) ?_ t
  clear t
  intro k s n ks hks w v hin hwt
  unfold TmIn at hin
  obtain ⟨ao, cap, rfl, hk, hn, hs, hlen, hcap, hrow⟩ := hin
  have ew : (Tm.mk k s n ks).wt = s.size + (ks.length + wts ks) := by simp [Tm.wt, wts]; omega
  rw [ew] at hwt
  obtain ⟨W, hW⟩ : ∃ W, W = (w.alloc (.cells #[.int .i64 k, .string s, .int .i64 n, .slice ao ks.length cap] 28)).alloc (.cells #[.int .i64 0, .string ⟨#[]⟩, .int .i64 0, .slice none 0 0] 28) := ⟨_, rfl⟩
  have bW : Below w.heap.size w W := by rw [hW]; exact ((Below.refl _ _).alloc (Nat.le_refl _) _).alloc (by simp) _
  have HC := l34_terms ks hks W ao cap (by omega) (fun h0 => by obtain ⟨b, off, e, hr⟩ := hrow h0; exact ⟨b, off, e, TmsIn.keep bW ks b off hr⟩)
  have k1 : W.heap[w.heap.size]? = some (.cells #[.int .i64 k, .string s, .int .i64 n, .slice ao ks.length cap] 28 (0, 0)) := by rw [hW]; exact (alloc_old _ _ (by simp)).trans (alloc_at _ _ rfl)
  have k2 : W.heap[w.heap.size + 1]? = some (.cells #[.int .i64 0, .string ⟨#[]⟩, .int .i64 0, .slice none 0 0] 28 (0, 0)) := by rw [hW]; exact alloc_at _ _ (by simp)
  have lW : W.heap.size = w.heap.size + 2 := by rw [hW]; simp
  rw [hW] at HC
  replace HC : Hid _ := HC
  have HBW : Hid (Below w.heap.size w W) := bW
  have HK : Hid (∀ w1, Below W.heap.size W w1 → w1.heap[w.heap.size]? = some (.cells #[.int .i64 k, .string s, .int .i64 n, .slice ao ks.length cap] 28 (0, 0)) ∧ w1.heap[w.heap.size + 1]? = some (.cells #[.int .i64 0, .string ⟨#[]⟩, .int .i64 0, .slice none 0 0] 28 (0, 0))) := fun w1 hb => ⟨(hb.block _ (by omega)).trans k1, (hb.block _ (by omega)).trans k2⟩
  clear hks hrow ew k1 k2 bW
  go_enter Try.func30, Try.ntmps30
  go_wp2_with (go_at_call 53; refine (Calls.mono HC.out ?_); rintro e w1 ⟨sl, F, rfl, hown, hfr, hnd, hb⟩; rw [← hW] at hfr hb; obtain ⟨ao2, len2, cap2, rfl⟩ : ∃ ao2 len2 cap2, sl = .slice ao2 len2 cap2 := (by rcases hown with ⟨rfl, _⟩ | ⟨g, cap, cs, F', rfl, _⟩ <;> exact ⟨_, _, _, rfl⟩); obtain ⟨hb2, hb1⟩ := HK.out w1 hb; have HOWN : Hid (OwnS 28 w1 ks (.slice ao2 len2 cap2) F) := hown; have HFR : Hid (∀ f ∈ F, W.heap.size ≤ f) := hfr; have HBB : Hid (Below W.heap.size W w1) := hb; have y0 := blk_cell (i := 0) hb2 (by simp); have y1 := blk_cell (i := 1) hb2 (by simp); have y2 := blk_cell (i := 2) hb2 (by simp); have y3 := blk_cell (i := 3) hb2 (by simp); have z3 := blk_frozen hb2 3; have x0 := blk_cell (i := 0) hb1 (by simp); have x1 := blk_cell (i := 1) hb1 (by simp); have x2 := blk_cell (i := 2) hb1 (by simp); have x3 := blk_cell (i := 3) hb1 (by simp); have u0 := blk_frozen hb1 0; have u1 := blk_frozen hb1 1; have u2 := blk_frozen hb1 2; have u3 := blk_frozen hb1 3; simp only [List.getElem_toArray, List.getElem_cons_zero, List.getElem_cons_succ] at y0 y1 y2 y3 x0 x1 x2 x3; have H1 : Hid (w1.heap[w.heap.size + 1]? = some (.cells #[.int .i64 0, .string ⟨#[]⟩, .int .i64 0, .slice none 0 0] 28 (0, 0))) := hb1; clear hown hfr hb hb2 hb1)
  have hsz := HBB.out.size
  have hR : (((((w1.setCell ⟨w.heap.size, 3, none⟩ (.slice ao2 len2 cap2)).setCell ⟨w.heap.size + 1, 0, none⟩ (.int .i64 k)).setCell ⟨w.heap.size + 1, 1, none⟩ (.string s)).setCell ⟨w.heap.size + 1, 2, none⟩ (.int .i64 n)).setCell ⟨w.heap.size + 1, 3, none⟩ (.slice ao2 len2 cap2)).heap[w.heap.size + 1]? = some (.cells #[.int .i64 k, .string s, .int .i64 n, .slice ao2 len2 cap2] 28 (0, 0)) := by
    have := blk_set (i := 3) (blk_set (i := 2) (blk_set (i := 1) (blk_set (i := 0) ((blk_other (g := w.heap.size) (i := 3) (w := w1) (.slice ao2 len2 cap2) (show w.heap.size + 1 ≠ w.heap.size by omega)).trans H1.out) (.int .i64 k)) (.string s)) (.int .i64 n)) (.slice ao2 len2 cap2)
    simpa using this
  have hbl : Below w.heap.size w w1 := HBW.out.trans (HBB.out.mono HBW.out.size)
  refine bodyPost_ret_by (results_cell_row rfl _ _ (w.heap.size + 1) 28 _ (0, 0) _ rfl hR Try.underlying28 rfl (by kernel_rfl)) rfl ?_
  refine ⟨_, F, rfl, own_mk ?_ hk hn hs, ?_, hnd, ?_⟩
  · refine OwnS.keep HOWN.out fun f hf => ?_
    have := HFR.out f hf
    rw [blk_other _ (by omega), blk_other _ (by omega), blk_other _ (by omega), blk_other _ (by omega), blk_other _ (by omega)]
  · intro f hf
    have := HFR.out f hf
    omega
  · exact below_set (below_set (below_set (below_set (below_set hbl (by omega) _) (by omega) _) (by omega) _) (by omega) _) (by omega) _
end Go.Proofs.Ytdcphfcenaafbam
