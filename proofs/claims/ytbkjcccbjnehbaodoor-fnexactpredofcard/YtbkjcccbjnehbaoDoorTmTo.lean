/- The laws' copy of a term: each row in a block of its own. -/
import Derived.Test.YtbkjcccbjnehbaoDoorRows
import Derived.Test.YtbkjcccbjnehbaoDoorTmOwn
import Derived.Test.YtbkjcccbjnehbaoDoorTmToA
import Derived.Laws.MakeOwn
import Derived.ProofKit
namespace Go.Proofs.YtbkjcccbjnehbaoDoor
open Go.RowKit

def ToOk (t : Tm) : Prop := ∀ (w : World) (v : Value), TmIn w t v → t.wt ≤ 1048576 →
  Calls Tryd.prog 10 #[v] w fun e w' => ∃ v' F, e = .returned v' ∧ Own 31 w' t v' F ∧ (∀ f ∈ F, w.heap.size ≤ f) ∧ F.Nodup ∧ Below w.heap.size w w'

theorem to_terms (ks : List Tm) (hks : ∀ t ∈ ks, ToOk t) (w : World) (ao : Option Addr) (cap : Nat) (hlen : ks.length + wts ks ≤ 1048576) (h : ks ≠ [] → ∃ b off, ao = some ⟨b, off, none⟩ ∧ TmsIn w ks b off) :
    Calls Tryd.prog 24 #[.slice ao ks.length cap] w fun e w' => ∃ sl F, e = .returned sl ∧ OwnS 31 w' ks sl F ∧ (∀ f ∈ F, w.heap.size ≤ f) ∧ F.Nodup ∧ Below w.heap.size w w' := by
  obtain ⟨M, hM, hmk⟩ := make_terms ks.length (by omega)
  go_enter Tryd.func24, Tryd.ntmps24
  go_wp2
  clear hmk
  go_loopw [4] (fun vi wr => ∃ (j : Nat) (cur : Array Value) (F : List Nat), j ≤ ks.length ∧ vi = .int .i64 (j : Int) ∧ Hid (Below w.heap.size w wr) ∧ wr.heap[w.heap.size]? = some (.cells cur 31 (0, 0)) ∧ cur.size = ks.length * 4 ∧
      Hid (OwnRow 31 wr (ks.take j) (cur.toList.take (j * 4)) F ∧ (∀ f ∈ F, w.heap.size < f) ∧ F.Nodup)) (fun i _ => ks.length - (intOf i).toNat)
  case atStart =>
    refine ⟨0, M, [], by omega, rfl, (Below.refl _ _).alloc (Nat.le_refl _) _, by rw [heap_alloc_new], hM, ?_⟩
    exact ⟨by simp [OwnRow], by simp, by simp⟩
  case round =>
    obtain ⟨j, cur, F, hj, rfl, HB, hblk, hcs, HO⟩ := hrel
    by_cases hlt : j < ks.length
    · obtain ⟨b, off, rfl, hin⟩ := h (by intro e; subst e; simp at hlt)
      obtain ⟨c0, c1, c2, c3, h0, h1, h2, h3, ht⟩ := (TmsIn.keep HB.out ks b off hin).at j hlt
      have hwj := wt_le (List.getElem_mem hlt)
      have HC : Hid _ := hks ks[j] (List.getElem_mem hlt) wr _ ht (by omega)
      have hg : w.heap.size < wr.heap.size := (Array.getElem?_eq_some_iff.1 hblk).1
      have hkeep : ∀ w1 : World, Below wr.heap.size wr w1 → w1.heap[w.heap.size]? = some (.cells cur 31 (0, 0)) := fun w1 hb => (hb.block _ hg).trans hblk
      have HK : Hid _ := hkeep
      clear hin ht h hks hkeep hblk
      go_wp2_with (go_at_call 10; refine (Calls.mono HC.out ?_); rintro e w1 ⟨v', F2, rfl, hown, hfr, hnd, hb⟩; obtain ⟨k', s', n', ao', len', cap', rfl⟩ := own_shape hown; have hg1 := HK.out w1 hb; have x0 := blk_cell (i := j * 4) hg1 (by omega); have x1 := blk_cell (i := j * 4 + 1) hg1 (by omega); have x2 := blk_cell (i := j * 4 + 2) hg1 (by omega); have x3 := blk_cell (i := j * 4 + 3) hg1 (by omega); have z0 := blk_frozen hg1 (j * 4); have z1 := blk_frozen hg1 (j * 4 + 1); have z2 := blk_frozen hg1 (j * 4 + 2); have z3 := blk_frozen hg1 (j * 4 + 3); have HOWN : Hid _ := hown; have HFR : Hid _ := hfr; have HG : Hid _ := hg1; have HBB : Hid _ := hb; clear hown hfr hg1 hb)
      go_roundw
      case rel =>
        have hsz := HB.out.size
        have hb1 := HBB.out
        have hg1 := HG.out
        obtain ⟨o1, o2, o3⟩ := HO.out
        have hlt1 := OwnRow.lt _ _ _ o1
        have hne : ∀ f, w.heap.size < f → f ≠ w.heap.size := fun f hf => by omega
        refine ⟨j + 1, _, F ++ F2, by omega, by go_num, ?_, blk_set (blk_set (blk_set (blk_set hg1 _) _) _) _, by simp; exact hcs, ?_, ?_, ?_⟩
        · exact below_set (below_set (below_set (below_set (HB.out.trans (hb1.mono hsz)) (Nat.le_refl _) _) (Nat.le_refl _) _) (Nat.le_refl _) _) (Nat.le_refl _) _
        · rw [List.take_succ_eq_append_getElem hlt, set4_take (by omega)]
          refine OwnRow.snoc (Own.keep _ _ _ HOWN.out fun f hf => ?_) _ _ _ (OwnRow.keep _ _ _ o1 fun f hf => ?_)
          · have h1 := HFR.out f hf
            rw [blk_other _ (hne f (by omega)), blk_other _ (hne f (by omega)), blk_other _ (hne f (by omega)), blk_other _ (hne f (by omega))]
          · have h1 := o2 f hf
            rw [blk_other _ (hne f h1), blk_other _ (hne f h1), blk_other _ (hne f h1), blk_other _ (hne f h1)]
            exact hb1.block f (hlt1 f hf)
        · intro f hf
          rcases List.mem_append.1 hf with hf | hf
          · exact o2 f hf
          · have := HFR.out f hf; omega
        · refine List.nodup_append.2 ⟨o3, hnd, fun a ha b hb => ?_⟩
          have h1 := hlt1 a ha
          have h2 := HFR.out b hb
          omega
      case measure => simp [intOf]; omega
    · obtain rfl : j = ks.length := by omega
      go_wp2
      go_ret
      obtain ⟨o1, o2, o3⟩ := HO.out
      rw [List.take_of_length_le (Nat.le_refl _)] at o1
      refine ⟨_, w.heap.size :: F, rfl, Or.inr ⟨w.heap.size, ks.length, cur.toList.take (ks.length * 4), F, rfl, ⟨by simp [hcs], Or.inr ⟨w.heap.size, ks.length, cur, rfl, Nat.zero_le _, hblk, Nat.le_refl _, by unfold maxLen; omega, hcs, rfl⟩⟩, rfl, o1⟩, ?_, ?_, HB.out⟩
      · intro f hf
        rcases List.mem_cons.1 hf with rfl | hf
        · exact Nat.le_refl _
        · have := o2 f hf; omega
      · refine List.nodup_cons.2 ⟨fun hf => ?_, o3⟩
        have := o2 _ hf
        omega

theorem to_term (t : Tm) : ToOk t := by
  refine tm_ind (p := ToOk) ?_ t
  clear t
  intro k s n ks hks w v hin hwt
  unfold TmIn at hin
  obtain ⟨ao, cap, rfl, hk, hn, hs, hlen, hcap, hrow⟩ := hin
  have ew : (Tm.mk k s n ks).wt = s.size + (ks.length + wts ks) := by simp [Tm.wt, wts]; omega
  rw [ew] at hwt
  have HS : Hid (∀ w', Below w.heap.size w w' → Calls Tryd.prog 24 #[.slice ao ks.length cap] w' fun e w2 => ∃ sl F, e = .returned sl ∧ OwnS 31 w2 ks sl F ∧ (∀ f ∈ F, w'.heap.size ≤ f) ∧ F.Nodup ∧ Below w'.heap.size w' w2) := fun w' hb =>
    to_terms ks hks w' ao cap (by omega) (fun h0 => by obtain ⟨b, off, e, hr⟩ := hrow h0; exact ⟨b, off, e, TmsIn.keep hb ks b off hr⟩)
  clear hks hrow ew
  go_enter Tryd.func10, Tryd.ntmps10
  go_wp2_with (fail)
  go_at_call 24
  refine (Calls.mono (HS.out _ ((((Below.refl _ _).alloc (Nat.le_refl _) _).alloc (by simp) _).alloc (by simp; omega) _)) ?_)
  rintro e w1 ⟨sl, F, rfl, hown, hfr, hnd, hb⟩
  obtain ⟨ao2, len2, cap2, rfl⟩ : ∃ ao2 len2 cap2, sl = .slice ao2 len2 cap2 := by
    rcases hown with ⟨rfl, _⟩ | ⟨g, cap, cs, F', rfl, _⟩
    · exact ⟨_, _, _, rfl⟩
    · exact ⟨_, _, _, rfl⟩
  have hb2 : w1.heap[w.heap.size + 1 + 1]? = some (.cells #[.int .i64 k, .string s, .int .i64 n, .slice none 0 0] 31 (0, 0)) := by
    rw [hb.block _ (by simp)]
    exact alloc_at _ _ (by simp)
  have hb1 : w1.heap[w.heap.size + 1]? = some (.cells #[.int .i64 0, .string ⟨#[]⟩, .int .i64 0, .slice none 0 0] 31 (0, 0)) := by
    rw [hb.block _ (by simp), alloc_old _ _ (by simp)]
    exact alloc_at _ _ (by simp)
  have HOWN : Hid _ := hown
  have HFR : Hid _ := hfr
  have HBB : Hid _ := hb
  have y0 := blk_cell (i := 0) hb2 (by simp)
  have y1 := blk_cell (i := 1) hb2 (by simp)
  have y2 := blk_cell (i := 2) hb2 (by simp)
  have y3 := blk_cell (i := 3) hb2 (by simp)
  have z3 := blk_frozen hb2 3
  have x0 := blk_cell (i := 0) hb1 (by simp)
  have x1 := blk_cell (i := 1) hb1 (by simp)
  have x2 := blk_cell (i := 2) hb1 (by simp)
  have x3 := blk_cell (i := 3) hb1 (by simp)
  have u0 := blk_frozen hb1 0
  have u1 := blk_frozen hb1 1
  have u2 := blk_frozen hb1 2
  have u3 := blk_frozen hb1 3
  simp only [List.getElem_toArray, List.getElem_cons_zero, List.getElem_cons_succ] at y0 y1 y2 y3 x0 x1 x2 x3
  have H1 : Hid _ := hb1
  clear hown hfr hb hb2 hb1 HS
  go_wp2
  have hsz := HBB.out.size
  simp at hsz
  have hbl : Below w.heap.size w w1 := ((((Below.refl _ _).alloc (Nat.le_refl _) _).alloc (by simp) _).alloc (by simp; omega) _).trans (HBB.out.mono (by simp; omega))
  have hR : (((((w1.setCell ⟨w.heap.size + 1 + 1, 3, none⟩ (.slice ao2 len2 cap2)).setCell ⟨w.heap.size + 1, 0, none⟩ (.int .i64 k)).setCell ⟨w.heap.size + 1, 1, none⟩ (.string s)).setCell ⟨w.heap.size + 1, 2, none⟩ (.int .i64 n)).setCell ⟨w.heap.size + 1, 3, none⟩ (.slice ao2 len2 cap2)).heap[w.heap.size + 1]? = some (.cells #[.int .i64 k, .string s, .int .i64 n, .slice ao2 len2 cap2] 31 (0, 0)) := by
    have := blk_set (i := 3) (blk_set (i := 2) (blk_set (i := 1) (blk_set (i := 0) ((blk_other (g := w.heap.size + 1 + 1) (i := 3) (w := w1) (.slice ao2 len2 cap2) (show w.heap.size + 1 ≠ w.heap.size + 1 + 1 by omega)).trans H1.out) (.int .i64 k)) (.string s)) (.int .i64 n)) (.slice ao2 len2 cap2)
    simpa using this
  refine bodyPost_ret_by (results_cell_row rfl _ _ (w.heap.size + 1) 31 _ (0, 0) _ rfl hR Tryd.underlying31 rfl (by kernel_rfl)) rfl ?_
  refine ⟨_, F, rfl, own_mk ?_ hk hn hs, ?_, hnd, ?_⟩
  · refine OwnS.keep HOWN.out fun f hf => ?_
    have := HFR.out f hf
    simp at this
    rw [blk_other _ (by omega), blk_other _ (by omega), blk_other _ (by omega), blk_other _ (by omega), blk_other _ (by omega)]
  · intro f hf
    have := HFR.out f hf
    simp at this
    omega
  · exact below_set (below_set (below_set (below_set (below_set hbl (by omega) _) (by omega) _) (by omega) _) (by omega) _) (by omega) _
end Go.Proofs.YtbkjcccbjnehbaoDoor
