/- impl.Walked: what it stands for, copied. -/
import Derived.Test.YtdcphfcenaafbamNamesI
import Derived.Test.YtdcphfcenaafbamCopE
import Derived.Test.YtdcphfcenaafbamBindL
import Derived.Test.YtdcphfcenaafbamWalkP
namespace Go.Proofs.Ytdcphfcenaafbam
open Go.RowKit

theorem ownRow_at {e : TypeId} {w : World} : ∀ (ks : List Tm) (cs : List Value) (F : List Nat), OwnRow e w ks cs F → ∀ j (hj : j < ks.length), ∃ c0 c1 c2 c3 Fj, cs[j * 4]? = some c0 ∧ cs[j * 4 + 1]? = some c1 ∧ cs[j * 4 + 2]? = some c2 ∧ cs[j * 4 + 3]? = some c3 ∧ Own e w ks[j] (.agg #[c0, c1, c2, c3]) Fj ∧ Fj.Sublist F
  | [], _, _, _, j, hj => by simp at hj
  | t :: ts, cs, F, h, 0, _ => by
    unfold OwnRow at h
    obtain ⟨c0, c1, c2, c3, cs', F1, F2, rfl, rfl, h1, h2⟩ := h
    exact ⟨c0, c1, c2, c3, F1, rfl, rfl, rfl, rfl, h1, List.sublist_append_left _ _⟩
  | t :: ts, cs, F, h, j + 1, hj => by
    unfold OwnRow at h
    obtain ⟨c0, c1, c2, c3, cs', F1, F2, rfl, rfl, h1, h2⟩ := h
    obtain ⟨d0, d1, d2, d3, Fj, e0, e1, e2, e3, h3, h4⟩ := ownRow_at ts cs' F2 h2 j (by simpa using hj)
    refine ⟨d0, d1, d2, d3, Fj, ?_, ?_, ?_, ?_, h3, h4.trans (List.sublist_append_right _ _)⟩
    · rw [show (j + 1) * 4 = j * 4 + 1 + 1 + 1 + 1 by omega]; simpa using e0
    · rw [show (j + 1) * 4 + 1 = j * 4 + 1 + 1 + 1 + 1 + 1 by omega]; simpa using e1
    · rw [show (j + 1) * 4 + 2 = j * 4 + 2 + 1 + 1 + 1 + 1 by omega]; simpa using e2
    · rw [show (j + 1) * 4 + 3 = j * 4 + 3 + 1 + 1 + 1 + 1 by omega]; simpa using e3

theorem new_copier (w : World) : Calls Try.prog 34 #[] w fun e w' => e = .returned (.pointer (some ⟨w.heap.size + 1, 0, none⟩)) ∧ w'.heap[w.heap.size + 1]? = some (.cells #[.map (some w.heap.size), .int .i64 0, .slice none 0 0] 81 (0, 0)) ∧ w'.heap[w.heap.size]? = some (.map #[] 0) ∧ w'.heap.size = w.heap.size + 2 ∧ Below w.heap.size w w' := by
  have hmm := @run_makeMap Try.prog
  have HE : Hid (∀ w', w' = (w.alloc (.map #[] 0)).alloc (.cells #[.map (some w.heap.size), .int .i64 0, .slice none 0 0] 81) → w'.heap[w.heap.size + 1]? = some (.cells #[.map (some w.heap.size), .int .i64 0, .slice none 0 0] 81 (0, 0)) ∧ w'.heap[w.heap.size]? = some (.map #[] 0) ∧ w'.heap.size = w.heap.size + 2 ∧ Below w.heap.size w w') := by
    intro w' hw'
    refine ⟨by rw [hw']; exact alloc_at _ _ (by simp), by rw [hw']; exact (alloc_old _ _ (by simp)).trans (heap_alloc_new w _), by rw [hw']; simp, by rw [hw']; exact ((Below.refl _ _).alloc (Nat.le_refl _) _).alloc (by simp) _⟩
  go_enter Try.func34, Try.ntmps34
  go_wp2
  go_ret
  exact ⟨rfl, HE.out _ rfl⟩

set_option maxHeartbeats 4000000 in
set_option maxRecDepth 20000 in
theorem impl_walked (ks : List Tm) (t : Tm) (w : World) (sl v : Value) (Fb Ft : List Nat) (hsl : OwnS 28 w ks sl Fb) (hnb : Fb.Nodup) (ht : Own 28 w t v Ft) (hnt : Ft.Nodup) (hl : ks.length ≤ 1048576) (hwt : (walkT ks 5000 t).wt ≤ 1048576) :
    Calls Try.prog 23 #[.agg #[sl], v] w fun e w' => ∃ v' F, e = .returned v' ∧ Own 28 w' (walkT ks 5000 t) v' F ∧ (∀ f ∈ F, w.heap.size ≤ f) ∧ F.Nodup ∧ Below w.heap.size w w' := by
  obtain ⟨k, s, n, ao, len, cap, rfl⟩ := own_shape ht
  obtain ⟨ao2, cap2, rfl, h1, h2, h3⟩ := OwnS.toIn hsl
  obtain ⟨b, off, hr⟩ : ∃ b off, ks ≠ [] → ao2 = some ⟨b, off, none⟩ ∧ TmsIn w ks b off := by
    by_cases h0 : ks = []
    · exact ⟨0, 0, fun h => absurd h0 h⟩
    · obtain ⟨b, off, e, h⟩ := h3 h0
      exact ⟨b, off, fun _ => ⟨e, h⟩⟩
  obtain ⟨W, hW⟩ : ∃ W, W = ((w.alloc (.cells #[.slice ao2 ks.length cap2] 35)).alloc (.cells #[.int .i64 k, .string s, .int .i64 n, .slice ao len cap] 28)).alloc (.cells #[.int .i64 0, .string ⟨#[]⟩, .int .i64 0, .slice none 0 0] 28) := ⟨_, rfl⟩
  have bW : Below w.heap.size w W := by rw [hW]; exact (((Below.refl _ _).alloc (Nat.le_refl _) _).alloc (by simp) _).alloc (by simp; omega) _
  have lW : W.heap.size = w.heap.size + 3 := by rw [hW]; simp
  have k0 : W.heap[w.heap.size]? = some (.cells #[.slice ao2 ks.length cap2] 35 (0, 0)) := by rw [hW]; exact (alloc_old _ _ (by simp; omega)).trans ((alloc_old _ _ (by simp)).trans (heap_alloc_new w _))
  have k1 : W.heap[w.heap.size + 1]? = some (.cells #[.int .i64 k, .string s, .int .i64 n, .slice ao len cap] 28 (0, 0)) := by rw [hW]; exact (alloc_old _ _ (by simp)).trans (alloc_at _ _ (by simp))
  have k2 : W.heap[w.heap.size + 2]? = some (.cells #[.int .i64 0, .string ⟨#[]⟩, .int .i64 0, .slice none 0 0] 28 (0, 0)) := by rw [hW]; exact alloc_at _ _ (by simp)
  obtain ⟨R, hR⟩ : ∃ R, R = walkT ks 5000 t := ⟨_, rfl⟩
  rw [← hR] at hwt ⊢
  have HW3 : Hid (∀ w', Below W.heap.size W w' → Below w.heap.size w w' ∧ w'.cell? ⟨w.heap.size, 0, none⟩ = some (.slice ao2 ks.length cap2) ∧ w'.heap[w.heap.size + 2]? = some (.cells #[.int .i64 0, .string ⟨#[]⟩, .int .i64 0, .slice none 0 0] 28 (0, 0))) := fun w' hb => ⟨bW.trans (hb.mono bW.size), blk_cell (i := 0) ((hb.block _ (by omega)).trans k0) (by simp), (hb.block _ (by omega)).trans k2⟩
  have HN : Hid (∀ w', Below W.heap.size W w' → Calls Try.prog 41 #[.agg #[.slice ao2 ks.length cap2]] w' fun e w2 => ∃ g, e = .returned (.slice (some ⟨g, 0, none⟩) ks.length ks.length) ∧ NamesAt w2 g ks b off ∧ w'.heap.size ≤ g ∧ g < w2.heap.size ∧ Below w'.heap.size w' w2) := fun w' hb => names_any ks w' ao2 cap2 b off hl fun h0 => ⟨(hr h0).1, TmsIn.keep (bW.trans (hb.mono bW.size)) _ _ _ (hr h0).2⟩
  have HWK : Hid (∀ w' g, Below W.heap.size W w' → NamesAt w' g ks b off → Calls Try.prog 42 #[.slice (some ⟨g, 0, none⟩) ks.length ks.length, .pointer (some ⟨w.heap.size + 1, 0, none⟩)] w' fun e w2 => ∃ qb qo, e = .returned (.pointer (some ⟨qb, qo, none⟩)) ∧ WEnd ks b off (w.heap.size + 1) 0 t R qb qo ∧ w2 = w') := fun w' g hb hn => by
    rw [hR]
    have hbb := bW.trans (hb.mono bW.size)
    refine walked_any ks t w' g b off _ _ hn (fun h0 => TmsIn.keep hbb _ _ _ (hr h0).2) ?_
    have hk := (hb.block _ (by omega)).trans k1
    exact ⟨_, _, _, _, blk_cell (i := 0) hk (by simp), blk_cell (i := 1) hk (by simp), blk_cell (i := 2) hk (by simp), blk_cell (i := 3) hk (by simp), TmIn.keep hbb _ _ (Own.toIn _ _ _ ht)⟩
  have HEND : Hid (∀ w' qb qo, Below W.heap.size W w' → WEnd ks b off (w.heap.size + 1) 0 t R qb qo → ∃ k1 s1 n1 ao1 l1 cap1 FR, w'.cell? ⟨qb, qo, none⟩ = some (.int .i64 k1) ∧ w'.cell? ⟨qb, qo + 1, none⟩ = some (.string s1) ∧ w'.cell? ⟨qb, qo + 2, none⟩ = some (.int .i64 n1) ∧ w'.cell? ⟨qb, qo + 3, none⟩ = some (.slice ao1 l1 cap1) ∧ Own 28 w' R (.agg #[.int .i64 k1, .string s1, .int .i64 n1, .slice ao1 l1 cap1]) FR ∧ FR.Nodup ∧ ∀ f ∈ FR, f < w.heap.size) := fun w' qb qo hb hq => by
    have hbb := bW.trans (hb.mono bW.size)
    rcases hq with ⟨rfl, rfl, rfl⟩ | ⟨j, hj, rfl, rfl, rfl⟩
    · have hk := (hb.block _ (by omega)).trans k1
      exact ⟨k, s, n, ao, len, cap, Ft, blk_cell (i := 0) hk (by simp), blk_cell (i := 1) hk (by simp), blk_cell (i := 2) hk (by simp), blk_cell (i := 3) hk (by simp), Own.keep _ _ _ ht fun f hf => hbb.block f (Own.lt _ _ _ ht f hf), hnt, Own.lt _ _ _ ht⟩
    · have h0 : ks ≠ [] := by intro e; subst e; simp at hj
      rcases hsl with ⟨_, e, _⟩ | ⟨g, cp, cs, F', e, hrow, rfl, hor⟩
      · exact absurd e h0
      · obtain ⟨e1, _⟩ := hr h0
        rw [e1] at e hrow
        obtain ⟨⟨rfl, rfl⟩, rfl⟩ : (qb = g ∧ off = 0) ∧ cap2 = cp := by simpa using e
        obtain ⟨c0, c1, c2, c3, Fj, d0, d1, d2, d3, hoj, hsub⟩ := ownRow_at ks cs F' hor j hj
        obtain ⟨k', s', n', ao', l', cap', hsh⟩ := own_shape hoj
        obtain ⟨rfl, rfl, rfl, rfl⟩ : c0 = .int .i64 k' ∧ c1 = .string s' ∧ c2 = .int .i64 n' ∧ c3 = .slice ao' l' cap' := by simpa using hsh
        have hlc := hrow.1
        have hcl := OwnRow.len _ _ _ hor
        have hcell : ∀ i, i < 4 → w'.cell? ⟨qb, 0 + j * 4 + i, none⟩ = cs[j * 4 + i]? := fun i hi => by
          have h9 := hrow.cellAt (j * 4 + i) (by omega)
          rw [Nat.zero_add]
          rw [List.getElem?_eq_getElem (by omega)] at h9 ⊢
          exact cell_keep h9 hbb
        have hltF : ∀ f ∈ Fj, f < w.heap.size := Own.lt _ _ _ hoj
        exact ⟨k', s', n', ao', l', cap', Fj, (hcell 0 (by omega)).trans d0, (hcell 1 (by omega)).trans d1, (hcell 2 (by omega)).trans d2, (hcell 3 (by omega)).trans d3, Own.keep _ _ _ hoj fun f hf => hbb.block f (hltF f hf), hsub.nodup (List.nodup_cons.1 hnb).2, hltF⟩
  have HD : Hid (Below W.heap.size W W.drew) := (Below.refl _ _).drew
  have c0 := (HW3.out W.drew HD.out).2.1
  have c0' := (HW3.out W (Below.refl _ _)).2.1
  clear hR hsl ht k0 k1 k2 hr h3 bW hnb hnt
  go_enter Try.func23, Try.ntmps23
  go_wp2
  rw [← hW]
  have HCP : Hid (∀ w1 w2 v1 FR, w1.heap[W.heap.size + 1]? = some (.cells #[.map (some W.heap.size), .int .i64 0, .slice none 0 0] 81 (0, 0)) → w1.heap[W.heap.size]? = some (.map #[] 0) → Below w1.heap.size w1 w2 → Below W.heap.size W w2 → Own 28 w2 R v1 FR → FR.Nodup → (∀ f ∈ FR, f < w.heap.size) →
      Calls Try.prog 35 #[.pointer (some ⟨W.heap.size + 1, 0, none⟩), v1] w2 fun e w' => ∃ k' s' n' ao' l' cap' F', e = .returned (.agg #[.int .i64 k', .string s', .int .i64 n', .slice ao' l' cap']) ∧ w'.heap[w.heap.size + 2]? = some (.cells #[.int .i64 0, .string ⟨#[]⟩, .int .i64 0, .slice none 0 0] 28 (0, 0)) ∧
        ∀ d0 d1 d2 d3 w5, w5 = ((((w'.setCell ⟨w.heap.size + 2, 0, none⟩ d0).setCell ⟨w.heap.size + 2, 1, none⟩ d1).setCell ⟨w.heap.size + 2, 2, none⟩ d2).setCell ⟨w.heap.size + 2, 3, none⟩ d3) → Own 28 w5 R (.agg #[.int .i64 k', .string s', .int .i64 n', .slice ao' l' cap']) F' ∧ (∀ f ∈ F', w.heap.size ≤ f) ∧ F'.Nodup ∧ Below w.heap.size w w5) := by
    intro w1 w2 v1 FR q1 q2 hb2 hbW ho hnd hlt
    have l1 := (Array.getElem?_eq_some_iff.1 q1).1
    have l2 := (Array.getElem?_eq_some_iff.1 q2).1
    refine Calls.mono (copy_of R v1 FR w2 (W.heap.size + 1) W.heap.size 0 ho hnd hwt ((hb2.block _ l1).trans q1) ((hb2.block _ l2).trans q2) (fun f hf => by have := hlt f hf; omega) (by omega)) ?_
    rintro e w' ⟨v', F', rfl, ho', hf', hnd', hout⟩
    obtain ⟨k', s', n', ao', l', cap', rfl⟩ := own_shape ho'
    have hs2 := hbW.size
    obtain ⟨hbw, _, hz⟩ := HW3.out w2 hbW
    refine ⟨k', s', n', ao', l', cap', F', rfl, (hout.block _ (by omega) (by simp; omega)).trans hz, fun d0 d1 d2 d3 w5 hw5 => ⟨Own.keep _ _ _ ho' fun f hf => ?_, fun f hf => ?_, hnd', ?_⟩⟩
    · have := hf' f hf
      rw [hw5, blk4_other (by omega)]
    · have := hf' f hf; omega
    · rw [hw5]
      exact blk4_below (hbw.trans (hout.below (B := w.heap.size) (by simp; omega) hbw.size)) (by omega)
  have HNC : Hid (Calls Try.prog 34 #[] W.drew fun e w1 => e = .returned (.pointer (some ⟨W.heap.size + 1, 0, none⟩)) ∧ w1.cell? ⟨w.heap.size, 0, none⟩ = some (.slice ao2 ks.length cap2) ∧ Hid (w1.heap[W.heap.size + 1]? = some (.cells #[.map (some W.heap.size), .int .i64 0, .slice none 0 0] 81 (0, 0)) ∧ w1.heap[W.heap.size]? = some (.map #[] 0) ∧ Below W.heap.size W w1)) := by
    refine Calls.mono (new_copier W.drew) ?_
    rintro e w1 ⟨rfl, q1, q2, q3, q4⟩
    have hb : Below W.heap.size W w1 := HD.out.trans (q4.mono HD.out.size)
    exact ⟨rfl, (HW3.out w1 hb).2.1, q1, q2, hb⟩
  clear hW lW
  go_region_with (first
    | (go_at_call 34; refine (Calls.mono HNC.out ?_); rintro e w1 ⟨rfl, c1, Q⟩)
    | (go_at_call 41; refine (Calls.mono (HN.out _ Q.out.2.2) ?_); rintro e w2 ⟨g, rfl, hn, hg1, hg2, hb2⟩; have HB2 : Hid (Below W.heap.size W w2) := Q.out.2.2.trans (hb2.mono Q.out.2.2.size); have HN2 : Hid (NamesAt w2 g ks b off) := hn; have HBB : Hid (Below w1.heap.size w1 w2) := hb2; clear hn hg1 hg2 hb2)
    | (go_at_call 42; refine (Calls.mono (HWK.out _ _ HB2.out HN2.out) ?_); rintro e w3 ⟨qb, qo, rfl, hq, rfl⟩; obtain ⟨k1, s1, n1, ao1, l1, cap1, FR, p0, p1, p2, p3, ho, hnd, hlt⟩ := HEND.out _ qb qo HB2.out hq; have HC : Hid _ := HCP.out w1 _ _ FR Q.out.1 Q.out.2.1 HBB.out HB2.out ho hnd hlt; clear ho hnd hlt hq)
    | (go_at_call 35; refine (Calls.mono HC.out ?_); rintro e w4 ⟨k', s', n', ao', l', cap', F', rfl, hz, hfin⟩; obtain ⟨y0, y1, y2, y3, z0, z1, z2, z3⟩ := blk4 hz; have HZ : Hid _ := hz; have HF : Hid _ := hfin; clear hz hfin))
  all_goals
    go_wp2
    refine bodyPost_ret_by (results_cell_row rfl _ _ (w.heap.size + 2) 28 _ (0, 0) _ rfl (blk4_set HZ.out) Try.underlying28 rfl (by kernel_rfl)) rfl ?_
    exact ⟨_, F', rfl, HF.out _ _ _ _ _ rfl⟩
end Go.Proofs.Ytdcphfcenaafbam
