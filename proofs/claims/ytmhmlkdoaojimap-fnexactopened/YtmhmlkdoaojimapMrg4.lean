/- Four texts in one. -/
import Derived.Test.YtmhmlkdoaojimapRows
import Derived.Test.YtmhmlkdoaojimapMrg2
import Derived.Test.YtmhmlkdoaojimapMrg3
import Derived.Laws.MakeOwn
import Derived.ProofKit
import Derived.Deep.DeepCutAuto
import Derived.Test.YtmhmlkdoaojimapMrg1
/- The laws' copy of a term: each row in a block of its own. -/
namespace Go.Proofs.Ytmhmlkdoaojimap
open Go.RowKit

def ToOk (t : Tm) : Prop := ∀ (w : World) (v : Value), TmIn w t v → t.wt ≤ 1048576 →
  Calls Try.prog 41 #[v] w fun e w' => ∃ v' F, e = .returned v' ∧ Own 54 w' t v' F ∧ (∀ f ∈ F, w.heap.size ≤ f) ∧ F.Nodup ∧ Below w.heap.size w w'

theorem to_terms (ks : List Tm) (hks : ∀ t ∈ ks, ToOk t) (w : World) (ao : Option Addr) (cap : Nat) (hlen : ks.length + wts ks ≤ 1048576) (h : ks ≠ [] → ∃ b off, ao = some ⟨b, off, none⟩ ∧ TmsIn w ks b off) :
    Calls Try.prog 46 #[.slice ao ks.length cap] w fun e w' => ∃ sl F, e = .returned sl ∧ OwnS 54 w' ks sl F ∧ (∀ f ∈ F, w.heap.size ≤ f) ∧ F.Nodup ∧ Below w.heap.size w w' := by
  obtain ⟨M, hM, hmk⟩ := make_terms ks.length (by omega)
  go_enter Try.func46, Try.ntmps46
  go_wp2
  clear hmk
  go_loopw [4] (fun vi wr => ∃ (j : Nat) (cur : Array Value) (F : List Nat), j ≤ ks.length ∧ vi = .int .i64 (j : Int) ∧ Hid (Below w.heap.size w wr) ∧ wr.heap[w.heap.size]? = some (.cells cur 54 (0, 0)) ∧ cur.size = ks.length * 4 ∧
      Hid (OwnRow 54 wr (ks.take j) (cur.toList.take (j * 4)) F ∧ (∀ f ∈ F, w.heap.size < f) ∧ F.Nodup)) (fun i _ => ks.length - (intOf i).toNat)
  case atStart =>
    refine ⟨0, M, [], by omega, rfl, (Below.refl _ _).alloc (Nat.le_refl _) _, by rw [heap_alloc_new], hM, ?_⟩
    exact ⟨by simp [OwnRow], by simp, by simp⟩
  case round =>
    obtain ⟨j, cur, F, hj, rfl, HB, hblk, hcs, HO⟩ := hrel
    by_cases hlt : j < ks.length
    · obtain ⟨b, off, rfl, hin⟩ := h (by intro e; subst e; simp at hlt)
      obtain ⟨c0, c1, c2, c3, h0, h1, h2, h3, ht⟩ := (TmsIn.keep HB.out ks b off hin).at j hlt
      have hwj := wt_le (List.getElem_mem hlt)
      have HC : Hid _ := hks ks[j] (List.getElem_mem hlt) wr _ ht (by omega)
      have hg : w.heap.size < wr.heap.size := (Array.getElem?_eq_some_iff.1 hblk).1
      have hkeep : ∀ w1 : World, Below wr.heap.size wr w1 → w1.heap[w.heap.size]? = some (.cells cur 54 (0, 0)) := fun w1 hb => (hb.block _ hg).trans hblk
      have HK : Hid _ := hkeep
      clear hin ht h hks hkeep hblk
      go_wp2_with (go_at_call 41; refine (Calls.mono HC.out ?_); rintro e w1 ⟨v', F2, rfl, hown, hfr, hnd, hb⟩; obtain ⟨k', s', n', ao', len', cap', rfl⟩ := own_shape hown; have hg1 := HK.out w1 hb; have x0 := blk_cell (i := j * 4) hg1 (by omega); have x1 := blk_cell (i := j * 4 + 1) hg1 (by omega); have x2 := blk_cell (i := j * 4 + 2) hg1 (by omega); have x3 := blk_cell (i := j * 4 + 3) hg1 (by omega); have z0 := blk_frozen hg1 (j * 4); have z1 := blk_frozen hg1 (j * 4 + 1); have z2 := blk_frozen hg1 (j * 4 + 2); have z3 := blk_frozen hg1 (j * 4 + 3); have HOWN : Hid _ := hown; have HFR : Hid _ := hfr; have HG : Hid _ := hg1; have HBB : Hid _ := hb; clear hown hfr hg1 hb)
      go_roundw
      case rel =>
        have hsz := HB.out.size
        have hb1 := HBB.out
        have hg1 := HG.out
        obtain ⟨o1, o2, o3⟩ := HO.out
        have hlt1 := OwnRow.lt _ _ _ o1
        have hne : ∀ f, w.heap.size < f → f ≠ w.heap.size := fun f hf => by omega
        refine ⟨j + 1, _, F ++ F2, by omega, by go_num, ?_, blk_set (blk_set (blk_set (blk_set hg1 _) _) _) _, by simp; exact hcs, ?_, ?_, ?_⟩
        · exact below_set (below_set (below_set (below_set (HB.out.trans (hb1.mono hsz)) (Nat.le_refl _) _) (Nat.le_refl _) _) (Nat.le_refl _) _) (Nat.le_refl _) _
        · rw [List.take_succ_eq_append_getElem hlt, set4_take (by omega)]
          refine OwnRow.snoc (Own.keep _ _ _ HOWN.out fun f hf => ?_) _ _ _ (OwnRow.keep _ _ _ o1 fun f hf => ?_)
          · have h1 := HFR.out f hf
            rw [blk_other _ (hne f (by omega)), blk_other _ (hne f (by omega)), blk_other _ (hne f (by omega)), blk_other _ (hne f (by omega))]
          · have h1 := o2 f hf
            rw [blk_other _ (hne f h1), blk_other _ (hne f h1), blk_other _ (hne f h1), blk_other _ (hne f h1)]
            exact hb1.block f (hlt1 f hf)
        · intro f hf
          rcases List.mem_append.1 hf with hf | hf
          · exact o2 f hf
          · have := HFR.out f hf; omega
        · refine List.nodup_append.2 ⟨o3, hnd, fun a ha b hb => ?_⟩
          have h1 := hlt1 a ha
          have h2 := HFR.out b hb
          omega
      case measure => simp [intOf]; omega
    · obtain rfl : j = ks.length := by omega
      go_wp2
      go_ret
      obtain ⟨o1, o2, o3⟩ := HO.out
      rw [List.take_of_length_le (Nat.le_refl _)] at o1
      refine ⟨_, w.heap.size :: F, rfl, Or.inr ⟨w.heap.size, ks.length, cur.toList.take (ks.length * 4), F, rfl, ⟨by simp [hcs], Or.inr ⟨w.heap.size, ks.length, cur, rfl, Nat.zero_le _, hblk, Nat.le_refl _, by unfold maxLen; omega, hcs, rfl⟩⟩, rfl, o1⟩, ?_, ?_, HB.out⟩
      · intro f hf
        rcases List.mem_cons.1 hf with rfl | hf
        · exact Nat.le_refl _
        · have := o2 f hf; omega
      · refine List.nodup_cons.2 ⟨fun hf => ?_, o3⟩
        have := o2 _ hf
        omega

theorem to_term (t : Tm) : ToOk t := by
  refine tm_ind (p := ToOk) ?_ t
  clear t
  intro k s n ks hks w v hin hwt
  unfold TmIn at hin
  obtain ⟨ao, cap, rfl, hk, hn, hs, hlen, hcap, hrow⟩ := hin
  have ew : (Tm.mk k s n ks).wt = s.size + (ks.length + wts ks) := by simp [Tm.wt, wts]; omega
  rw [ew] at hwt
  have HS : Hid (∀ w', Below w.heap.size w w' → Calls Try.prog 46 #[.slice ao ks.length cap] w' fun e w2 => ∃ sl F, e = .returned sl ∧ OwnS 54 w2 ks sl F ∧ (∀ f ∈ F, w'.heap.size ≤ f) ∧ F.Nodup ∧ Below w'.heap.size w' w2) := fun w' hb =>
    to_terms ks hks w' ao cap (by omega) (fun h0 => by obtain ⟨b, off, e, hr⟩ := hrow h0; exact ⟨b, off, e, TmsIn.keep hb ks b off hr⟩)
  clear hks hrow ew
  go_enter Try.func41, Try.ntmps41
  go_wp2_with (fail)
  go_at_call 46
  refine (Calls.mono (HS.out _ ((((Below.refl _ _).alloc (Nat.le_refl _) _).alloc (by simp) _).alloc (by simp; omega) _)) ?_)
  rintro e w1 ⟨sl, F, rfl, hown, hfr, hnd, hb⟩
  obtain ⟨ao2, len2, cap2, rfl⟩ : ∃ ao2 len2 cap2, sl = .slice ao2 len2 cap2 := by
    rcases hown with ⟨rfl, _⟩ | ⟨g, cap, cs, F', rfl, _⟩
    · exact ⟨_, _, _, rfl⟩
    · exact ⟨_, _, _, rfl⟩
  have hb2 : w1.heap[w.heap.size + 1 + 1]? = some (.cells #[.int .i64 k, .string s, .int .i64 n, .slice none 0 0] 54 (0, 0)) := by
    rw [hb.block _ (by simp)]
    exact alloc_at _ _ (by simp)
  have hb1 : w1.heap[w.heap.size + 1]? = some (.cells #[.int .i64 0, .string ⟨#[]⟩, .int .i64 0, .slice none 0 0] 54 (0, 0)) := by
    rw [hb.block _ (by simp), alloc_old _ _ (by simp)]
    exact alloc_at _ _ (by simp)
  have HOWN : Hid _ := hown
  have HFR : Hid _ := hfr
  have HBB : Hid _ := hb
  have y0 := blk_cell (i := 0) hb2 (by simp)
  have y1 := blk_cell (i := 1) hb2 (by simp)
  have y2 := blk_cell (i := 2) hb2 (by simp)
  have y3 := blk_cell (i := 3) hb2 (by simp)
  have z3 := blk_frozen hb2 3
  have x0 := blk_cell (i := 0) hb1 (by simp)
  have x1 := blk_cell (i := 1) hb1 (by simp)
  have x2 := blk_cell (i := 2) hb1 (by simp)
  have x3 := blk_cell (i := 3) hb1 (by simp)
  have u0 := blk_frozen hb1 0
  have u1 := blk_frozen hb1 1
  have u2 := blk_frozen hb1 2
  have u3 := blk_frozen hb1 3
  simp only [List.getElem_toArray, List.getElem_cons_zero, List.getElem_cons_succ] at y0 y1 y2 y3 x0 x1 x2 x3
  have H1 : Hid _ := hb1
  clear hown hfr hb hb2 hb1 HS
  go_wp2
  have hsz := HBB.out.size
  simp at hsz
  have hbl : Below w.heap.size w w1 := ((((Below.refl _ _).alloc (Nat.le_refl _) _).alloc (by simp) _).alloc (by simp; omega) _).trans (HBB.out.mono (by simp; omega))
  have hR : (((((w1.setCell ⟨w.heap.size + 1 + 1, 3, none⟩ (.slice ao2 len2 cap2)).setCell ⟨w.heap.size + 1, 0, none⟩ (.int .i64 k)).setCell ⟨w.heap.size + 1, 1, none⟩ (.string s)).setCell ⟨w.heap.size + 1, 2, none⟩ (.int .i64 n)).setCell ⟨w.heap.size + 1, 3, none⟩ (.slice ao2 len2 cap2)).heap[w.heap.size + 1]? = some (.cells #[.int .i64 k, .string s, .int .i64 n, .slice ao2 len2 cap2] 54 (0, 0)) := by
    have := blk_set (i := 3) (blk_set (i := 2) (blk_set (i := 1) (blk_set (i := 0) ((blk_other (g := w.heap.size + 1 + 1) (i := 3) (w := w1) (.slice ao2 len2 cap2) (show w.heap.size + 1 ≠ w.heap.size + 1 + 1 by omega)).trans H1.out) (.int .i64 k)) (.string s)) (.int .i64 n)) (.slice ao2 len2 cap2)
    simpa using this
  refine bodyPost_ret_by (results_cell_row rfl _ _ (w.heap.size + 1) 54 _ (0, 0) _ rfl hR Try.underlying54 rfl (by kernel_rfl)) rfl ?_
  refine ⟨_, F, rfl, own_mk ?_ hk hn hs, ?_, hnd, ?_⟩
  · refine OwnS.keep HOWN.out fun f hf => ?_
    have := HFR.out f hf
    simp at this
    rw [blk_other _ (by omega), blk_other _ (by omega), blk_other _ (by omega), blk_other _ (by omega), blk_other _ (by omega)]
  · intro f hf
    have := HFR.out f hf
    simp at this
    omega
  · exact below_set (below_set (below_set (below_set (below_set hbl (by omega) _) (by omega) _) (by omega) _) (by omega) _) (by omega) _
end Go.Proofs.Ytmhmlkdoaojimap

/- A block of four cells. Of no program. -/
namespace Go.Proofs.Ytmhmlkdoaojimap
open Go.RowKit

theorem blk4 {w : World} {g : Nat} {c0 c1 c2 c3 : Value} {T : TypeId} (h : w.heap[g]? = some (.cells #[c0, c1, c2, c3] T (0, 0))) :
    w.cell? ⟨g, 0, none⟩ = some c0 ∧ w.cell? ⟨g, 1, none⟩ = some c1 ∧ w.cell? ⟨g, 2, none⟩ = some c2 ∧ w.cell? ⟨g, 3, none⟩ = some c3 ∧ w.frozen? ⟨g, 0, none⟩ = false ∧ w.frozen? ⟨g, 1, none⟩ = false ∧ w.frozen? ⟨g, 2, none⟩ = false ∧ w.frozen? ⟨g, 3, none⟩ = false :=
  ⟨blk_cell (i := 0) h (by simp), blk_cell (i := 1) h (by simp), blk_cell (i := 2) h (by simp), blk_cell (i := 3) h (by simp), blk_frozen h 0, blk_frozen h 1, blk_frozen h 2, blk_frozen h 3⟩

/-- four cells of a block set, one behind the other -/
theorem blk4_set {w : World} {g : Nat} {c0 c1 c2 c3 d0 d1 d2 d3 : Value} {T : TypeId} (h : w.heap[g]? = some (.cells #[c0, c1, c2, c3] T (0, 0))) :
    ((((w.setCell ⟨g, 0, none⟩ d0).setCell ⟨g, 1, none⟩ d1).setCell ⟨g, 2, none⟩ d2).setCell ⟨g, 3, none⟩ d3).heap[g]? = some (.cells #[d0, d1, d2, d3] T (0, 0)) := by
  have := blk_set (i := 3) (blk_set (i := 2) (blk_set (i := 1) (blk_set (i := 0) h d0) d1) d2) d3
  simpa using this
theorem blk4_other {w : World} {g f : Nat} {d0 d1 d2 d3 : Value} (h : f ≠ g) :
    ((((w.setCell ⟨g, 0, none⟩ d0).setCell ⟨g, 1, none⟩ d1).setCell ⟨g, 2, none⟩ d2).setCell ⟨g, 3, none⟩ d3).heap[f]? = w.heap[f]? := by
  rw [blk_other _ h, blk_other _ h, blk_other _ h, blk_other _ h]
theorem blk4_below {B : Nat} {w w' : World} {g : Nat} {d0 d1 d2 d3 : Value} (hb : Below B w w') (hg : B ≤ g) :
    Below B w ((((w'.setCell ⟨g, 0, none⟩ d0).setCell ⟨g, 1, none⟩ d1).setCell ⟨g, 2, none⟩ d2).setCell ⟨g, 3, none⟩ d3) :=
  below_set (below_set (below_set (below_set hb hg _) hg _) hg _) hg _

end Go.Proofs.Ytmhmlkdoaojimap

/- laws.toClause. -/
namespace Go.Proofs.Ytmhmlkdoaojimap
open Go.RowKit

theorem blk9_set4c {w : World} {g : Nat} {c0 c1 c2 c3 c4 c5 c6 c7 c8 d0 d1 d2 d3 : Value} {T : TypeId} (h : w.heap[g]? = some (.cells #[c0, c1, c2, c3, c4, c5, c6, c7, c8] T (0, 0))) :
    ((((w.setCell ⟨g, 0, none⟩ d0).setCell ⟨g, 1, none⟩ d1).setCell ⟨g, 2, none⟩ d2).setCell ⟨g, 3, none⟩ d3).heap[g]? = some (.cells #[d0, d1, d2, d3, c4, c5, c6, c7, c8] T (0, 0)) := by
  have := blk_set (i := 3) (blk_set (i := 2) (blk_set (i := 1) (blk_set (i := 0) h d0) d1) d2) d3
  simpa using this
theorem set4c_other {w : World} {g f : Nat} {d0 d1 d2 d3 : Value} (h : f ≠ g) :
    ((((w.setCell ⟨g, 4, none⟩ d0).setCell ⟨g, 5, none⟩ d1).setCell ⟨g, 6, none⟩ d2).setCell ⟨g, 7, none⟩ d3).heap[f]? = w.heap[f]? := by
  rw [blk_other _ h, blk_other _ h, blk_other _ h, blk_other _ h]

set_option maxHeartbeats 4000000 in
set_option maxRecDepth 20000 in
theorem to_clause (H B : Tm) (f : ByteArray) (w : World) (k1 s1 n1 a1 l1 c1 k2 s2 n2 a2 l2 c2) (h1 : TmIn w H (.agg #[.int .i64 k1, .string s1, .int .i64 n1, .slice a1 l1 c1])) (h2 : TmIn w B (.agg #[.int .i64 k2, .string s2, .int .i64 n2, .slice a2 l2 c2])) (o1 : H.wt ≤ 1048576) (o2 : B.wt ≤ 1048576) :
    Calls Try.prog 30 #[.agg #[.int .i64 k1, .string s1, .int .i64 n1, .slice a1 l1 c1, .int .i64 k2, .string s2, .int .i64 n2, .slice a2 l2 c2, .string f]] w fun e w' => ∃ k s n ao l c k' s' n' ao' l' c' F G, e = .returned (.agg #[.int .i64 k, .string s, .int .i64 n, .slice ao l c, .int .i64 k', .string s', .int .i64 n', .slice ao' l' c', .string f]) ∧ Own 54 w' H (.agg #[.int .i64 k, .string s, .int .i64 n, .slice ao l c]) F ∧ Own 54 w' B (.agg #[.int .i64 k', .string s', .int .i64 n', .slice ao' l' c']) G ∧
      (∀ x ∈ F, w.heap.size ≤ x) ∧ (∀ x ∈ G, w.heap.size ≤ x) ∧ F.Nodup ∧ G.Nodup ∧ (∀ x ∈ G, x ∉ F) ∧ Below w.heap.size w w' := by
  obtain ⟨W, hW⟩ : ∃ W, W = ((w.alloc (.cells #[.int .i64 k1, .string s1, .int .i64 n1, .slice a1 l1 c1, .int .i64 k2, .string s2, .int .i64 n2, .slice a2 l2 c2, .string f] 50)).alloc (.cells #[.int .i64 0, .string ⟨#[]⟩, .int .i64 0, .slice none 0 0, .int .i64 0, .string ⟨#[]⟩, .int .i64 0, .slice none 0 0, .string ⟨#[]⟩] 56)).alloc (.cells #[.int .i64 0, .string ⟨#[]⟩, .int .i64 0, .slice none 0 0, .int .i64 0, .string ⟨#[]⟩, .int .i64 0, .slice none 0 0, .string ⟨#[]⟩] 56) := ⟨_, rfl⟩
  have bW : Below w.heap.size w W := by rw [hW]; exact (((Below.refl _ _).alloc (Nat.le_refl _) _).alloc (by simp) _).alloc (by simp; omega) _
  have lW : W.heap.size = w.heap.size + 3 := by rw [hW]; simp
  have k1' : W.heap[w.heap.size]? = some (.cells #[.int .i64 k1, .string s1, .int .i64 n1, .slice a1 l1 c1, .int .i64 k2, .string s2, .int .i64 n2, .slice a2 l2 c2, .string f] 50 (0, 0)) := by rw [hW]; exact (alloc_old _ _ (by simp; omega)).trans ((alloc_old _ _ (by simp)).trans (alloc_at _ _ rfl))
  have k2' : W.heap[w.heap.size + 1]? = some (.cells #[.int .i64 0, .string ⟨#[]⟩, .int .i64 0, .slice none 0 0, .int .i64 0, .string ⟨#[]⟩, .int .i64 0, .slice none 0 0, .string ⟨#[]⟩] 56 (0, 0)) := by rw [hW]; exact (alloc_old _ _ (by simp)).trans (alloc_at _ _ (by simp))
  have k3' : W.heap[w.heap.size + 2]? = some (.cells #[.int .i64 0, .string ⟨#[]⟩, .int .i64 0, .slice none 0 0, .int .i64 0, .string ⟨#[]⟩, .int .i64 0, .slice none 0 0, .string ⟨#[]⟩] 56 (0, 0)) := by rw [hW]; exact alloc_at _ _ (by simp)
  have HC1 : Hid _ := to_term H W _ (TmIn.keep bW _ _ h1) o1
  have HC2 : Hid (∀ w1, Below w.heap.size w w1 → Calls Try.prog 41 #[.agg #[.int .i64 k2, .string s2, .int .i64 n2, .slice a2 l2 c2]] w1 fun e w' => ∃ v' F, e = .returned v' ∧ Own 54 w' B v' F ∧ (∀ x ∈ F, w1.heap.size ≤ x) ∧ F.Nodup ∧ Below w1.heap.size w1 w') := fun w1 hb => to_term B w1 _ (TmIn.keep hb _ _ h2) o2
  have HBW : Hid (Below w.heap.size w W) := bW
  have HL : Hid (W.heap.size = w.heap.size + 3) := lW
  have HK1 : Hid (W.heap[w.heap.size]? = _) := k1'
  have HK2 : Hid (W.heap[w.heap.size + 1]? = _) := k2'
  have HK3 : Hid (W.heap[w.heap.size + 2]? = _) := k3'
  clear h1 h2 o1 o2 bW lW k1' k2' k3'
  go_enter Try.func30, Try.ntmps30
  go_upto_region 2 with fail
  rw [← hW]
  clear hW
  obtain ⟨p, hp⟩ : ∃ p, p = w.heap.size := ⟨_, rfl⟩
  rw [← hp] at HL HK1 HK2 HK3 ⊢
  have HPP : Hid (p = w.heap.size) := hp
  clear hp
  have hpq : p ≠ p + 2 := by omega
  obtain ⟨⟨y0, y1, y2, y3, y4, y5, y6, y7, y8⟩, _⟩ := blk9 HK1.out
  go_upto_region 3 with (go_at_call 41; refine (Calls.mono HC1.out ?_); rintro e w1 ⟨v', F, rfl, o, hf, nd, hb⟩; obtain ⟨k3, s3, n3, a3, l3, c3, rfl⟩ := own_shape o; have HO1 : Hid _ := o; have HF1 : Hid ((∀ x ∈ F, p + 3 ≤ x) ∧ F.Nodup) := ⟨fun x hx => by have := hf x hx; have := HL.out; omega, nd⟩; have HB1 : Hid (Below W.heap.size W w1) := hb; have hk := (hb.block _ (Array.getElem?_eq_some_iff.1 HK3.out).1).trans HK3.out; have HKP : Hid _ := hk; clear o hf nd hb; clear y0 y1 y2 y3 y4 y5 y6 y7 y8; obtain ⟨⟨z0, z1, z2, z3, z4, z5, z6, z7, z8⟩, g0, g1, g2, g3, g4, g5, g6, g7, g8⟩ := blk9 hk; clear hk)
  clear z0 z1 z2 z3 z4 z5 z6 z7 z8 g0 g1 g2 g3 g4 g5 g6 g7 g8
  obtain ⟨V1, hV1⟩ : ∃ V1, V1 = ((((w1.setCell ⟨p + 1 + 1, 0, none⟩ (.int .i64 k3)).setCell ⟨p + 1 + 1, 1, none⟩ (.string s3)).setCell ⟨p + 1 + 1, 2, none⟩ (.int .i64 n3)).setCell ⟨p + 1 + 1, 3, none⟩ (.slice a3 l3 c3)) := ⟨_, rfl⟩
  first | rw [← hV1] | (have hV1' := hV1; simp only [Nat.add_assoc, Nat.reduceAdd] at hV1'; rw [← hV1'])
  replace hV1 : V1 = ((((w1.setCell ⟨p + 2, 0, none⟩ (.int .i64 k3)).setCell ⟨p + 2, 1, none⟩ (.string s3)).setCell ⟨p + 2, 2, none⟩ (.int .i64 n3)).setCell ⟨p + 2, 3, none⟩ (.slice a3 l3 c3)) := hV1
  have b1 : Below p w V1 := by rw [hV1]; exact blk4_below (by rw [HPP.out]; exact HBW.out.trans (HB1.out.mono HBW.out.size)) (by omega)
  have hk1 : V1.heap[p]? = some (.cells #[.int .i64 k1, .string s1, .int .i64 n1, .slice a1 l1 c1, .int .i64 k2, .string s2, .int .i64 n2, .slice a2 l2 c2, .string f] 50 (0, 0)) := by rw [hV1]; exact (blk4_other (by omega)).trans ((HB1.out.block _ (Array.getElem?_eq_some_iff.1 HK1.out).1).trans HK1.out)
  have hk2 : V1.heap[p + 1]? = some (.cells #[.int .i64 0, .string ⟨#[]⟩, .int .i64 0, .slice none 0 0, .int .i64 0, .string ⟨#[]⟩, .int .i64 0, .slice none 0 0, .string ⟨#[]⟩] 56 (0, 0)) := by rw [hV1]; exact (blk4_other (by omega)).trans ((HB1.out.block _ (Array.getElem?_eq_some_iff.1 HK2.out).1).trans HK2.out)
  have hk3 : V1.heap[p + 2]? = some (.cells #[.int .i64 k3, .string s3, .int .i64 n3, .slice a3 l3 c3, .int .i64 0, .string ⟨#[]⟩, .int .i64 0, .slice none 0 0, .string ⟨#[]⟩] 56 (0, 0)) := by rw [hV1]; exact blk9_set4c HKP.out
  have hs1 : V1.heap.size = w1.heap.size := by rw [hV1]; simp [World.setCell]
  have HOV : Hid (Own 54 V1 H (.agg #[.int .i64 k3, .string s3, .int .i64 n3, .slice a3 l3 c3]) F) := by rw [hV1]; exact Own.keep _ _ _ HO1.out fun x hx => blk4_other (by have := HF1.out.1 x hx; omega)
  have HS1 : Hid (∀ x ∈ F, x < V1.heap.size) := fun x hx => by rw [hs1]; exact Own.lt _ _ _ HO1.out x hx
  have HB1V : Hid (Below w.heap.size w V1) := by show Below _ _ _; rw [← HPP.out]; exact b1
  have HP1 : Hid (p + 3 ≤ V1.heap.size) := by have := HB1.out.size; have := HL.out; show _ ≤ _; omega
  have HK4 : Hid (V1.heap[p]? = _ ∧ V1.heap[p + 1]? = _ ∧ V1.heap[p + 2]? = _) := ⟨hk1, hk2, hk3⟩
  have HC3 : Hid _ := HC2.out V1 HB1V.out
  clear hV1 b1 hs1 hk2 hk3 HKP HO1 HB1
  obtain ⟨⟨y0, y1, y2, y3, y4, y5, y6, y7, y8⟩, _⟩ := blk9 hk1
  clear hk1
  go_upto_region 4 with (go_at_call 41; refine (Calls.mono HC3.out ?_); rintro e w2 ⟨v', G, rfl, o, hf, nd, hb⟩; obtain ⟨k4, s4, n4, a4, l4, c4, rfl⟩ := own_shape o; have HO2 : Hid _ := o; have HG : Hid ((∀ x ∈ G, V1.heap.size ≤ x) ∧ G.Nodup) := ⟨hf, nd⟩; have HB2 : Hid (Below V1.heap.size V1 w2) := hb; have hk := (hb.block _ (Array.getElem?_eq_some_iff.1 HK4.out.2.2).1).trans HK4.out.2.2; have HKP : Hid _ := hk; clear o hf nd hb; clear y0 y1 y2 y3 y4 y5 y6 y7 y8; obtain ⟨⟨z0, z1, z2, z3, z4, z5, z6, z7, z8⟩, g0, g1, g2, g3, g4, g5, g6, g7, g8⟩ := blk9 hk; clear hk)
  clear z0 z1 z2 z3 z4 z5 z6 z7 z8 g0 g1 g2 g3 g4 g5 g6 g7 g8
  obtain ⟨V2, hV2⟩ : ∃ V2, V2 = ((((w2.setCell ⟨p + 1 + 1, 4, none⟩ (.int .i64 k4)).setCell ⟨p + 1 + 1, 5, none⟩ (.string s4)).setCell ⟨p + 1 + 1, 6, none⟩ (.int .i64 n4)).setCell ⟨p + 1 + 1, 7, none⟩ (.slice a4 l4 c4)) := ⟨_, rfl⟩
  first | rw [← hV2] | (have hV2' := hV2; simp only [Nat.add_assoc, Nat.reduceAdd] at hV2'; rw [← hV2'])
  replace hV2 : V2 = ((((w2.setCell ⟨p + 2, 4, none⟩ (.int .i64 k4)).setCell ⟨p + 2, 5, none⟩ (.string s4)).setCell ⟨p + 2, 6, none⟩ (.int .i64 n4)).setCell ⟨p + 2, 7, none⟩ (.slice a4 l4 c4)) := hV2
  have b2 : Below p w V2 := by rw [hV2]; exact below_set (below_set (below_set (below_set (by have := HB1V.out; rw [← HPP.out] at this; exact this.trans (HB2.out.mono (by have := HP1.out; omega))) (by omega) _) (by omega) _) (by omega) _) (by omega) _
  have hk1 : V2.heap[p]? = some (.cells #[.int .i64 k1, .string s1, .int .i64 n1, .slice a1 l1 c1, .int .i64 k2, .string s2, .int .i64 n2, .slice a2 l2 c2, .string f] 50 (0, 0)) := by rw [hV2]; exact (set4c_other (by omega)).trans ((HB2.out.block _ (Array.getElem?_eq_some_iff.1 HK4.out.1).1).trans HK4.out.1)
  have hk2 : V2.heap[p + 1]? = some (.cells #[.int .i64 0, .string ⟨#[]⟩, .int .i64 0, .slice none 0 0, .int .i64 0, .string ⟨#[]⟩, .int .i64 0, .slice none 0 0, .string ⟨#[]⟩] 56 (0, 0)) := by rw [hV2]; exact (set4c_other (by omega)).trans ((HB2.out.block _ (Array.getElem?_eq_some_iff.1 HK4.out.2.1).1).trans HK4.out.2.1)
  have hk3 : V2.heap[p + 2]? = some (.cells #[.int .i64 k3, .string s3, .int .i64 n3, .slice a3 l3 c3, .int .i64 k4, .string s4, .int .i64 n4, .slice a4 l4 c4, .string ⟨#[]⟩] 56 (0, 0)) := by rw [hV2]; exact blk9_set4b HKP.out
  have HO3 : Hid (Own 54 V2 H (.agg #[.int .i64 k3, .string s3, .int .i64 n3, .slice a3 l3 c3]) F) := by rw [hV2]; exact Own.keep _ _ _ HOV.out fun x hx => (set4c_other (by have := HF1.out.1 x hx; omega)).trans (HB2.out.block x (HS1.out x hx))
  have HO4 : Hid (Own 54 V2 B (.agg #[.int .i64 k4, .string s4, .int .i64 n4, .slice a4 l4 c4]) G) := by rw [hV2]; exact Own.keep _ _ _ HO2.out fun x hx => set4c_other (by have := HG.out.1 x hx; have := HP1.out; omega)
  have HV2 : Hid (Below p w V2) := b2
  have HK5 : Hid (V2.heap[p + 1]? = _ ∧ V2.heap[p + 2]? = _) := ⟨hk2, hk3⟩
  clear hV2 b2 HKP HO2 HOV hk2
  obtain ⟨⟨y0, y1, y2, y3, y4, y5, y6, y7, y8⟩, _⟩ := blk9 hk1
  obtain ⟨⟨z0, z1, z2, z3, z4, z5, z6, z7, z8⟩, g0, g1, g2, g3, g4, g5, g6, g7, g8⟩ := blk9 hk3
  clear hk1 hk3
  go_upto_region 5 with fail
  clear y0 y1 y2 y3 y4 y5 y6 y7 y8 z0 z1 z2 z3 z4 z5 z6 z7 z8 g0 g1 g2 g3 g4 g5 g6 g7 g8
  obtain ⟨V3, hV3⟩ : ∃ V3, V3 = V2.setCell ⟨p + 1 + 1, 8, none⟩ (.string f) := ⟨_, rfl⟩
  first | rw [← hV3] | (have hV3' := hV3; simp only [Nat.add_assoc, Nat.reduceAdd] at hV3'; rw [← hV3'])
  replace hV3 : V3 = V2.setCell ⟨p + 2, 8, none⟩ (.string f) := hV3
  have hk2 : V3.heap[p + 1]? = some (.cells #[.int .i64 0, .string ⟨#[]⟩, .int .i64 0, .slice none 0 0, .int .i64 0, .string ⟨#[]⟩, .int .i64 0, .slice none 0 0, .string ⟨#[]⟩] 56 (0, 0)) := by rw [hV3]; exact (blk_other _ (by omega)).trans HK5.out.1
  have hk3 : V3.heap[p + 2]? = some (.cells #[.int .i64 k3, .string s3, .int .i64 n3, .slice a3 l3 c3, .int .i64 k4, .string s4, .int .i64 n4, .slice a4 l4 c4, .string f] 56 (0, 0)) := by rw [hV3]; simpa using blk_set (i := 8) HK5.out.2 (.string f)
  have HFIN : Hid (∀ d0 d1 d2 d3 d4 d5 d6 d7 d8, Own 54 (set9 V3 (p + 1) d0 d1 d2 d3 d4 d5 d6 d7 d8) H (.agg #[.int .i64 k3, .string s3, .int .i64 n3, .slice a3 l3 c3]) F ∧ Own 54 (set9 V3 (p + 1) d0 d1 d2 d3 d4 d5 d6 d7 d8) B (.agg #[.int .i64 k4, .string s4, .int .i64 n4, .slice a4 l4 c4]) G ∧
      (∀ x ∈ F, p ≤ x) ∧ (∀ x ∈ G, p ≤ x) ∧ F.Nodup ∧ G.Nodup ∧ (∀ x ∈ G, x ∉ F) ∧ Below p w (set9 V3 (p + 1) d0 d1 d2 d3 d4 d5 d6 d7 d8)) := fun d0 d1 d2 d3 d4 d5 d6 d7 d8 =>
    ⟨Own.keep _ _ _ HO3.out fun x hx => (blk9_other (by have := HF1.out.1 x hx; omega)).trans (by rw [hV3]; exact blk_other _ (by have := HF1.out.1 x hx; omega)), Own.keep _ _ _ HO4.out fun x hx => (blk9_other (by have := HG.out.1 x hx; have := HP1.out; omega)).trans (by rw [hV3]; exact blk_other _ (by have := HG.out.1 x hx; have := HP1.out; omega)), fun x hx => by have := HF1.out.1 x hx; omega, fun x hx => by have := HG.out.1 x hx; have := HP1.out; omega, HF1.out.2, HG.out.2, fun x hx h => by have := HG.out.1 x hx; have := HS1.out x h; omega, blk9_below (by rw [hV3]; exact below_set HV2.out (by omega) _) (by omega)⟩
  have HZ : Hid _ := hk2
  clear hV3
  obtain ⟨⟨z0, z1, z2, z3, z4, z5, z6, z7, z8⟩, _⟩ := blk9 hk3
  obtain ⟨⟨cc0, cc1, cc2, cc3, cc4, cc5, cc6, cc7, cc8⟩, g0, g1, g2, g3, g4, g5, g6, g7, g8⟩ := blk9 hk2
  clear hk2 hk3
  go_wp2
  refine bodyPost_ret_by (results_cell_row rfl _ _ (p + 1) 56 _ (0, 0) _ rfl (blk9_set HZ.out) Try.underlying56 rfl (by kernel_rfl)) rfl ?_
  rw [← HPP.out]
  exact ⟨_, _, _, _, _, _, _, _, _, _, _, _, F, G, rfl, HFIN.out _ _ _ _ _ _ _ _ _⟩
end Go.Proofs.Ytmhmlkdoaojimap

/- A row of clauses in blocks of their own. -/
namespace Go.Proofs.Ytmhmlkdoaojimap
open Go.RowKit

/-- one clause, its nine cells -/
def OwnC (e : TypeId) (w : World) (c : Cla) (cs : List Value) (F : List Nat) : Prop :=
  ∃ k1 s1 n1 a1 l1 m1 k2 s2 n2 a2 l2 m2 F1 F2, cs = [.int .i64 k1, .string s1, .int .i64 n1, .slice a1 l1 m1, .int .i64 k2, .string s2, .int .i64 n2, .slice a2 l2 m2, .string c.f] ∧ F = F1 ++ F2 ∧ c.f.size ≤ maxLen ∧
    Own e w c.h (.agg #[.int .i64 k1, .string s1, .int .i64 n1, .slice a1 l1 m1]) F1 ∧ Own e w c.b (.agg #[.int .i64 k2, .string s2, .int .i64 n2, .slice a2 l2 m2]) F2
/-- the cells of a row, nine each -/
def OwnCs (e : TypeId) (w : World) : List Cla → List Value → List Nat → Prop
  | [], cs, F => cs = [] ∧ F = []
  | c :: ks, cs, F => ∃ c1 c2 F1 F2, cs = c1 ++ c2 ∧ F = F1 ++ F2 ∧ OwnC e w c c1 F1 ∧ OwnCs e w ks c2 F2
/-- a slice of clauses, its own row and theirs -/
def OwnClS (ec e : TypeId) (w : World) (ks : List Cla) (sl : Value) (F : List Nat) : Prop :=
  (sl = .slice none 0 0 ∧ ks = [] ∧ F = []) ∨ ∃ g cap cs F', sl = .slice (some ⟨g, 0, none⟩) ks.length cap ∧ w.ownsRow 0 ec 9 sl ks.length cs ∧ F = g :: F' ∧ OwnCs e w ks cs F'

theorem OwnC.keep {e : TypeId} {w w' : World} {c : Cla} {cs : List Value} {F : List Nat} (h : OwnC e w c cs F) (hF : ∀ f ∈ F, w'.heap[f]? = w.heap[f]?) : OwnC e w' c cs F := by
  obtain ⟨k1, s1, n1, a1, l1, m1, k2, s2, n2, a2, l2, m2, F1, F2, rfl, rfl, hf, o1, o2⟩ := h
  exact ⟨k1, s1, n1, a1, l1, m1, k2, s2, n2, a2, l2, m2, F1, F2, rfl, rfl, hf, Own.keep _ _ _ o1 fun f h => hF f (by simp [h]), Own.keep _ _ _ o2 fun f h => hF f (by simp [h])⟩
theorem OwnC.lt {e : TypeId} {w : World} {c : Cla} {cs : List Value} {F : List Nat} (h : OwnC e w c cs F) : ∀ f ∈ F, f < w.heap.size := by
  obtain ⟨k1, s1, n1, a1, l1, m1, k2, s2, n2, a2, l2, m2, F1, F2, rfl, rfl, hf, o1, o2⟩ := h
  intro f hf
  rcases List.mem_append.1 hf with hf | hf
  · exact Own.lt _ _ _ o1 f hf
  · exact Own.lt _ _ _ o2 f hf
theorem OwnC.len {e : TypeId} {w : World} {c : Cla} {cs : List Value} {F : List Nat} (h : OwnC e w c cs F) : cs.length = 9 := by
  obtain ⟨k1, s1, n1, a1, l1, m1, k2, s2, n2, a2, l2, m2, F1, F2, rfl, _⟩ := h
  rfl
theorem OwnCs.keep {e : TypeId} {w w' : World} : ∀ (ks : List Cla) (cs : List Value) (F : List Nat), OwnCs e w ks cs F → (∀ f ∈ F, w'.heap[f]? = w.heap[f]?) → OwnCs e w' ks cs F
  | [], _, _, h, _ => h
  | c :: ks, cs, F, h, hF => by
    obtain ⟨c1, c2, F1, F2, rfl, rfl, h1, h2⟩ := h
    exact ⟨c1, c2, F1, F2, rfl, rfl, h1.keep fun f hf => hF f (by simp [hf]), OwnCs.keep ks c2 F2 h2 fun f hf => hF f (by simp [hf])⟩
theorem OwnCs.lt {e : TypeId} {w : World} : ∀ (ks : List Cla) (cs : List Value) (F : List Nat), OwnCs e w ks cs F → ∀ f ∈ F, f < w.heap.size
  | [], _, _, h => by obtain ⟨_, rfl⟩ := h; intro f hf; cases hf
  | c :: ks, cs, F, h => by
    obtain ⟨c1, c2, F1, F2, rfl, rfl, h1, h2⟩ := h
    intro f hf
    rcases List.mem_append.1 hf with hf | hf
    · exact h1.lt f hf
    · exact OwnCs.lt ks c2 F2 h2 f hf
theorem OwnCs.len {e : TypeId} {w : World} : ∀ (ks : List Cla) (cs : List Value) (F : List Nat), OwnCs e w ks cs F → cs.length = ks.length * 9
  | [], _, _, h => by obtain ⟨rfl, _⟩ := h; simp
  | c :: ks, cs, F, h => by
    obtain ⟨c1, c2, F1, F2, rfl, rfl, h1, h2⟩ := h
    have := h1.len
    have := OwnCs.len ks c2 F2 h2
    simp only [List.length_append, List.length_cons]; omega
theorem OwnCs.snoc {e : TypeId} {w : World} {c : Cla} {cc : List Value} {F2 : List Nat} (h2 : OwnC e w c cc F2) : ∀ (ks : List Cla) (cs : List Value) (F : List Nat), OwnCs e w ks cs F → OwnCs e w (ks ++ [c]) (cs ++ cc) (F ++ F2)
  | [], _, _, h => by
    obtain ⟨rfl, rfl⟩ := h
    exact ⟨cc, [], F2, [], by simp, by simp, h2, rfl, rfl⟩
  | c' :: ks, cs, F, h => by
    obtain ⟨d1, d2, F1, F3, rfl, rfl, h1, h3⟩ := h
    exact ⟨d1, d2 ++ cc, F1, F3 ++ F2, by simp, by simp, h1, OwnCs.snoc h2 ks d2 F3 h3⟩
/-- one of them -/
theorem OwnCs.at {e : TypeId} {w : World} : ∀ {ks : List Cla} {cs : List Value} {F : List Nat}, OwnCs e w ks cs F → ∀ (j : Nat) (hj : j < ks.length), ∃ F', OwnC e w ks[j] ((cs.drop (j * 9)).take 9) F' ∧ ∀ f ∈ F', f ∈ F
  | [], _, _, _, j, hj => by simp at hj
  | c :: ks, cs, F, h, 0, _ => by
    obtain ⟨c1, c2, F1, F2, rfl, rfl, h1, h2⟩ := h
    refine ⟨F1, ?_, fun f hf => by simp [hf]⟩
    have := h1.len
    rw [Nat.zero_mul, List.drop_zero, List.take_append_of_le_length (by omega), List.take_of_length_le (by omega)]
    exact h1
  | c :: ks, cs, F, h, j + 1, hj => by
    obtain ⟨c1, c2, F1, F2, rfl, rfl, h1, h2⟩ := h
    obtain ⟨F', o, hm⟩ := OwnCs.at h2 j (by simpa using hj)
    refine ⟨F', ?_, fun f hf => by simp [hm f hf]⟩
    have := h1.len
    rw [List.drop_append, List.drop_eq_nil_of_le (by omega), List.nil_append, show (j + 1) * 9 - c1.length = j * 9 by omega]
    exact o
theorem OwnClS.keep {ec e : TypeId} {w w' : World} {ks : List Cla} {sl : Value} {F : List Nat} (h : OwnClS ec e w ks sl F) (hF : ∀ f ∈ F, w'.heap[f]? = w.heap[f]?) : OwnClS ec e w' ks sl F := by
  rcases h with h | ⟨g, cap, cs, F', rfl, h5, rfl, h6⟩
  · exact Or.inl h
  · exact Or.inr ⟨g, cap, cs, F', rfl, row_keep h5 (hF g (by simp)), rfl, OwnCs.keep ks cs F' h6 (fun f hf => hF f (by simp [hf]))⟩
theorem OwnClS.lt {ec e : TypeId} {w : World} {ks : List Cla} {sl : Value} {F : List Nat} (h : OwnClS ec e w ks sl F) : ∀ f ∈ F, f < w.heap.size := by
  rcases h with ⟨_, _, rfl⟩ | ⟨g, cap, cs, F', rfl, h5, rfl, h6⟩
  · intro f hf; cases hf
  · intro f hf
    rcases List.mem_cons.1 hf with rfl | hf
    · exact (h5.lt _ rfl).2
    · exact OwnCs.lt ks cs F' h6 f hf
theorem ownClS_shape {ec e : TypeId} {w : World} {ks : List Cla} {sl : Value} {F : List Nat} (h : OwnClS ec e w ks sl F) : ∃ ao cap, sl = .slice ao ks.length cap := by
  rcases h with ⟨rfl, rfl, _⟩ | ⟨g, cap, cs, F', rfl, _⟩
  · exact ⟨none, 0, rfl⟩
  · exact ⟨_, cap, rfl⟩

theorem take_set1 {l : List Value} {i : Nat} {d : Value} (h : i < l.length) : (l.set i d).take (i + 1) = l.take i ++ [d] := by
  rw [List.take_succ_eq_append_getElem (by simpa using h), List.getElem_set_self, List.take_set_of_le (Nat.le_refl _)]
theorem set9_take {cur : Array Value} {j : Nat} {d0 d1 d2 d3 d4 d5 d6 d7 d8 : Value} (h : j * 9 + 8 < cur.size) :
    (((((((((cur.setIfInBounds (j * 9) d0).setIfInBounds (j * 9 + 1) d1).setIfInBounds (j * 9 + 2) d2).setIfInBounds (j * 9 + 3) d3).setIfInBounds (j * 9 + 4) d4).setIfInBounds (j * 9 + 5) d5).setIfInBounds (j * 9 + 6) d6).setIfInBounds (j * 9 + 7) d7).setIfInBounds (j * 9 + 8) d8).toList.take ((j + 1) * 9) = cur.toList.take (j * 9) ++ [d0, d1, d2, d3, d4, d5, d6, d7, d8] := by
  have hl : cur.toList.length = cur.size := by simp
  simp only [Array.toList_setIfInBounds]
  generalize cur.toList = l at *
  rw [show (j + 1) * 9 = j * 9 + 8 + 1 by omega, take_set1 (by simp only [List.length_set]; omega), take_set1 (by simp only [List.length_set]; omega), take_set1 (by simp only [List.length_set]; omega), take_set1 (by simp only [List.length_set]; omega), take_set1 (by simp only [List.length_set]; omega), take_set1 (by simp only [List.length_set]; omega), take_set1 (by simp only [List.length_set]; omega), take_set1 (by simp only [List.length_set]; omega), take_set1 (by omega)]
  simp
end Go.Proofs.Ytmhmlkdoaojimap
