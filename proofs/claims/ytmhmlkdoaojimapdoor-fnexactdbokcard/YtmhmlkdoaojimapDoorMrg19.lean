/- Four texts in one. -/
import Derived.Test.YtmhmlkdoaojimapDoorMrg18
import Derived.Test.YtmhmlkdoaojimapDoorMrg17
import Derived.Test.YtmhmlkdoaojimapDoorMrg8
import Derived.Test.YtmhmlkdoaojimapDoorMrg6
import Derived.Test.YtmhmlkdoaojimapDoorMrg3
/- (*copier).copyOf: a copy in memory of its own. -/
namespace Go.Proofs.YtmhmlkdoaojimapDoor
open Go.RowKit

set_option maxHeartbeats 4000000 in
set_option maxRecDepth 20000 in
theorem copy_of (t : Tm) (v : Value) (F : List Nat) (w : World) (gc m : Nat) (clk : Nat) (hown : Own 46 w t v F) (hnd : F.Nodup) (hwt : t.wt ≤ 1048576) (hc : w.heap[gc]? = some (.cells #[.map (some m), .int .i64 0, .slice none 0 0] 95 (0, 0))) (hm : w.heap[m]? = some (.map #[] clk)) (hF : ∀ f ∈ F, f ≠ gc ∧ f ≠ m) (hgm : gc ≠ m) :
    Calls Tryd.prog 88 #[.pointer (some ⟨gc, 0, none⟩), v] w fun e w' => ∃ v' F', e = .returned v' ∧ Own 46 w' t v' F' ∧ (∀ f ∈ F', w.heap.size ≤ f) ∧ F'.Nodup ∧ Out [gc, m] w w' := by
  obtain ⟨k, s, n, ks⟩ := t
  have hlt := Own.lt _ _ _ hown
  have hin := Own.toIn _ _ _ hown
  have hin' := hin
  unfold TmIn at hin
  obtain ⟨ao, cap, rfl, hk, hn, hs, hlen, hcap, _⟩ := hin
  obtain ⟨W, hW⟩ : ∃ W, W = (w.alloc (.cells #[.int .i64 k, .string s, .int .i64 n, .slice ao ks.length cap] 46)).alloc (.cells #[.int .i64 0, .string ⟨#[]⟩, .int .i64 0, .slice none 0 0] 46) := ⟨_, rfl⟩
  have bW : Below w.heap.size w W := by rw [hW]; exact ((Below.refl _ _).alloc (Nat.le_refl _) _).alloc (by simp) _
  have k1 : W.heap[w.heap.size]? = some (.cells #[.int .i64 k, .string s, .int .i64 n, .slice ao ks.length cap] 46 (0, 0)) := by rw [hW]; exact (alloc_old _ _ (by simp)).trans (alloc_at _ _ rfl)
  have k2 : W.heap[w.heap.size + 1]? = some (.cells #[.int .i64 0, .string ⟨#[]⟩, .int .i64 0, .slice none 0 0] 46 (0, 0)) := by rw [hW]; exact alloc_at _ _ (by simp)
  have lW : W.heap.size = w.heap.size + 2 := by rw [hW]; simp
  have HK : Hid (∀ w1, Below W.heap.size W w1 → w1.heap[w.heap.size]? = some (.cells #[.int .i64 k, .string s, .int .i64 n, .slice ao ks.length cap] 46 (0, 0)) ∧ w1.heap[w.heap.size + 1]? = some (.cells #[.int .i64 0, .string ⟨#[]⟩, .int .i64 0, .slice none 0 0] 46 (0, 0))) := fun w1 hb => ⟨(hb.block _ (by omega)).trans k1, (hb.block _ (by omega)).trans k2⟩
  have HBW : Hid (Below w.heap.size w W) := bW
  have hl20 : ks.length ≤ 1048576 := by
    have ew : (Tm.mk k s n ks).wt = s.size + (ks.length + wts ks) := by simp [Tm.wt, wts]; omega
    omega
  unfold maxLen at hcap
  have HOK := implOk _ W _ (TmIn.keep bW _ _ hin')
  have hright : ks.length = 0 ∨ (Tm.mk k s n ks).ok = true → Calls Tryd.prog 88 #[.pointer (some ⟨gc, 0, none⟩), .agg #[.int .i64 k, .string s, .int .i64 n, .slice ao ks.length cap]] w fun e w' => ∃ v' F', e = .returned v' ∧ Own 46 w' (.mk k s n ks) v' F' ∧ (∀ f ∈ F', w.heap.size ≤ f) ∧ F'.Nodup ∧ Out [gc, m] w w' := by
    intro hr
    have hsh : (Tm.mk k s n ks).shp 0 := by
      rcases hr with h | h
      · obtain rfl : ks = [] := List.eq_nil_of_length_eq_zero h
        rw [shp_mk]
        exact ⟨fun _ => by omega, Or.inl rfl, trivial⟩
      · unfold Tm.ok at h
        rw [Bool.and_eq_true] at h
        exact right_shp 0 (by omega) _ 1 h.2
    have HSR : Hid (∀ w1, Below W.heap.size W w1 → Calls Tryd.prog 55 #[.agg #[.int .i64 k, .string s, .int .i64 n, .slice ao ks.length cap], .int .i64 0] w1 fun e w' => ∃ v' F, e = .returned v' ∧ Own 46 w' (.mk k s n ks) v' F ∧ (∀ f ∈ F, w1.heap.size ≤ f) ∧ F.Nodup ∧ Below w1.heap.size w1 w') := fun w1 hb => by
      have := shifted_right 0 (.mk k s n ks) w1 _ (TmIn.keep (bW.trans (hb.mono bW.size)) _ _ hin') hwt hsh
      rwa [shift_zero] at this
    have HE : Hid (∀ w1 w2 v' F', Below W.heap.size W w1 → Own 46 w2 (.mk k s n ks) v' F' → (∀ f ∈ F', w1.heap.size ≤ f) → Below w1.heap.size w1 w2 → (∀ f ∈ F', w.heap.size ≤ f) ∧ ∀ d0 d1 d2 d3 w3, w3 = ((((w2.setCell ⟨w.heap.size + 1, 0, none⟩ d0).setCell ⟨w.heap.size + 1, 1, none⟩ d1).setCell ⟨w.heap.size + 1, 2, none⟩ d2).setCell ⟨w.heap.size + 1, 3, none⟩ d3) →
        Own 46 w3 (.mk k s n ks) v' F' ∧ Out [gc, m] w w3) := by
      intro w1 w2 v' F' hb1 ho hf hb2
      have hs1 := hb1.size
      refine ⟨fun f hf' => by have := hf f hf'; omega, fun d0 d1 d2 d3 w3 hw3 => ⟨Own.keep _ _ _ ho fun f hf' => ?_, ?_⟩⟩
      · have := hf f hf'
        rw [hw3, blk4_other (by omega)]
      · rw [hw3]
        exact Out.of_below (blk4_below (bW.trans ((hb1.trans (hb2.mono hb1.size)).mono bW.size)) (by omega))
    clear hsh hown hnd hc hm hF hlt hin' bW k1 k2 hwt
    by_cases hk0 : ks.length = 0
    · rw [hk0] at hW HK HSR ⊢
      have HS0 := HSR.out W (Below.refl _ _)
      rw [hW] at HS0
      replace HS0 : Hid _ := HS0
      clear HOK hr HSR hlen hl20
      go_enter Tryd.func88, Tryd.ntmps88
      go_wp2_with (go_at_call 55; refine (Calls.mono HS0.out ?_); rintro e w2 ⟨v', F2, rfl, ho, hfr, hnd, hb⟩; rw [← hW] at hfr hb; obtain ⟨k', s', n', ao', len', cap', rfl⟩ := own_shape ho; have hz := (HK.out w2 hb).2; obtain ⟨y0, y1, y2, y3, z0, z1, z2, z3⟩ := blk4 hz; have HX : Hid _ := HE.out W w2 _ F2 (Below.refl _ _) ho hfr hb; have HZ : Hid _ := hz; have HND : Hid F2.Nodup := hnd; clear ho hfr hb hz hnd)
      refine bodyPost_ret_by (results_cell_row rfl _ _ (w.heap.size + 1) 46 _ (0, 0) _ rfl (blk4_set HZ.out) Tryd.underlying46 rfl (by kernel_rfl)) rfl ?_
      exact ⟨_, F2, rfl, (HX.out.2 _ _ _ _ _ rfl).1, HX.out.1, HND.out, (HX.out.2 _ _ _ _ _ rfl).2⟩
    · have hok : (Tm.mk k s n ks).ok = true := by rcases hr with h | h; exact absurd h hk0; exact h
      rw [hok, hW] at HOK
      replace HOK : Hid _ := HOK
      have hk1 : ((ks.length : Int) == 0) = false := by rw [nat0]; exact decide_eq_false hk0
      clear hr hok
      go_enter Tryd.func88, Tryd.ntmps88
      go_wp2_with (first | (go_at_call 50; refine (Calls.mono HOK.out ?_); rintro e w1 ⟨rfl, hb⟩; rw [← hW] at hb; obtain ⟨x0, x1, x2, x3, _⟩ := blk4 (HK.out w1 hb).1; have HS1 : Hid _ := HSR.out w1 hb; have HB1 : Hid (Below W.heap.size W w1) := hb; clear hb) | (go_at_call 55; refine (Calls.mono HS1.out ?_); rintro e w2 ⟨v', F2, rfl, ho, hfr, hnd, hb⟩; obtain ⟨k', s', n', ao', len', cap', rfl⟩ := own_shape ho; have hz := (HK.out w2 (HB1.out.trans (hb.mono HB1.out.size))).2; obtain ⟨y0, y1, y2, y3, z0, z1, z2, z3⟩ := blk4 hz; have HX : Hid _ := HE.out w1 w2 _ F2 HB1.out ho hfr hb; have HZ : Hid _ := hz; have HND : Hid F2.Nodup := hnd; clear ho hfr hb hz hnd))
      refine bodyPost_ret_by (results_cell_row rfl _ _ (w.heap.size + 1) 46 _ (0, 0) _ rfl (blk4_set HZ.out) Tryd.underlying46 rfl (by kernel_rfl)) rfl ?_
      exact ⟨_, F2, rfl, (HX.out.2 _ _ _ _ _ rfl).1, HX.out.1, HND.out, (HX.out.2 _ _ _ _ _ rfl).2⟩
  by_cases hr : ks.length = 0 ∨ (Tm.mk k s n ks).ok = true
  · exact hright hr
  clear hright
  have hk0 : ¬ ks.length = 0 := fun h => hr (Or.inl h)
  have hok : (Tm.mk k s n ks).ok = false := by cases h : (Tm.mk k s n ks).ok with | false => rfl | true => exact absurd (Or.inr h) hr
  obtain ⟨R, hsrc, hsub⟩ := own_src _ _ _ hown
  have hgl : gc < w.heap.size := (Array.getElem?_eq_some_iff.1 hc).1
  have hml : m < w.heap.size := (Array.getElem?_eq_some_iff.1 hm).1
  have HST : Hid (∀ w1, Below W.heap.size W w1 → ∀ W2, W2 = w1.alloc (.cells #[.int .i64 k, .string s, .int .i64 n, .slice ao ks.length cap] 46) → Below w.heap.size w W2 ∧ Src 46 W2 (.mk k s n ks) (.agg #[.int .i64 k, .string s, .int .i64 n, .slice ao ks.length cap]) R ∧
      Rows0 W2 ((w1.heap.size, 1, [.int .i64 k, .string s, .int .i64 n, .slice ao ks.length cap]) :: R) gc m ∧ Cop W2 ((w1.heap.size, 1, [.int .i64 k, .string s, .int .i64 n, .slice ao ks.length cap]) :: R) W2 gc m (.slice none 0 0) [] [] (((w1.heap.size, 1, [.int .i64 k, .string s, .int .i64 n, .slice ao ks.length cap]) :: R) ++ []) ∧ W2.ownsRow 0 46 4 (.slice (some ⟨w1.heap.size, 0, none⟩) 1 1) 1 [.int .i64 k, .string s, .int .i64 n, .slice ao ks.length cap] ∧ SrcRow 46 W2 [.mk k s n ks] [.int .i64 k, .string s, .int .i64 n, .slice ao ks.length cap] R) := by
    intro w1 hb W2 hW2
    have hb2 : Below w1.heap.size w1 W2 := by rw [hW2]; exact (Below.refl _ _).alloc (Nat.le_refl _) _
    have hb1 := bW.trans (hb.mono bW.size)
    have hbb : Below w.heap.size w W2 := hb1.trans (hb2.mono hb1.size)
    have hs1 := hb.size
    have hsW2 : Src 46 W2 (.mk k s n ks) (.agg #[.int .i64 k, .string s, .int .i64 n, .slice ao ks.length cap]) R := Src.keep _ _ _ hsrc fun r hr' => hbb.block _ (hlt _ (hsub.subset (List.mem_map_of_mem hr')))
    refine ⟨hbb, hsW2, cop_start (F := F) (clk := clk) hsW2 hwt ⟨_, _, _, _, rfl, rfl⟩ hsub hnd (fun f hf => ⟨(hF f hf).1, (hF f hf).2, by have := hlt f hf; omega⟩) ⟨by omega, by omega⟩ ((hbb.block _ hgl).trans hc) ((hbb.block _ hml).trans hm) hgm ?_⟩
    rw [hW2]; exact heap_alloc_new w1 _
  have hk1 : ((ks.length : Int) == 0) = false := by rw [nat0]; exact decide_eq_false hk0
  rw [hok, hW] at HOK
  replace HOK : Hid _ := HOK
  clear hr hok hown hnd hc hm hF hlt hin' bW k1 k2 hwt hsrc hsub hk0
  go_enter Tryd.func88, Tryd.ntmps88
  go_wp2_with (first | (go_at_call 50; refine (Calls.mono HOK.out ?_); rintro e w1 ⟨rfl, hb⟩; rw [← hW] at hb; obtain ⟨x0, x1, x2, x3, _⟩ := blk4 (HK.out w1 hb).1; have HB1 : Hid (Below W.heap.size W w1) := hb; have HCA := (let h := HST.out w1 hb _ rfl; Cop.call (cap := 1) (ks := [Tm.mk k s n ks]) h.2.2.2.1 h.2.2.1 rfl h.2.2.2.2.2 h.2.2.2.2.1); replace HCA : Hid _ := HCA; clear hb) | (go_at_call 104; refine (Calls.mono HCA.out ?_); rintro e w3 ⟨g0, cap0, osl0, rfl, hcop⟩; have HCP : Hid _ := hcop; clear hcop))
  obtain ⟨W2, hW2⟩ : ∃ W2, W2 = w1.alloc (.cells #[.int .i64 k, .string s, .int .i64 n, .slice ao ks.length cap] 46) := ⟨_, rfl⟩
  obtain ⟨bs, hbs⟩ : ∃ bs, bs = w1.heap.size := ⟨_, rfl⟩
  obtain ⟨cs0, hcs0⟩ : ∃ cs0, cs0 = [Value.int .i64 k, .string s, .int .i64 n, .slice ao ks.length cap] := ⟨_, rfl⟩
  obtain ⟨R0, hR0⟩ : ∃ R0, R0 = (bs, 1, cs0) :: R := ⟨_, rfl⟩
  have hall := HST.out w1 HB1.out W2 hW2
  have hzz := HK.out w1 HB1.out
  have hq0 := HCP.out
  rw [← hW2] at hq0
  have hbb := hall.1
  have hsW2 := hall.2.1
  have h0 := hall.2.2.1
  clear hall
  rw [← hbs, ← hcs0, ← hR0] at h0 hq0
  have hw2s : w.heap.size + 2 ≤ W2.heap.size := by
    have := HB1.out.size
    rw [hW2]; simp; omega
  have hz2 : W2.heap[w.heap.size + 1]? = some (.cells #[.int .i64 0, .string ⟨#[]⟩, .int .i64 0, .slice none 0 0] 46 (0, 0)) := by
    rw [hW2]; exact (alloc_old _ _ (by have := HB1.out.size; omega)).trans hzz.2
  have HBB : Hid (Below w.heap.size w W2) := hbb
  have HS2 : Hid (Src 46 W2 (.mk k s n ks) (.agg #[.int .i64 k, .string s, .int .i64 n, .slice ao ks.length cap]) R) := hsW2
  have H0 : Hid (Rows0 W2 R0 gc m) := h0
  have HZ2 : Hid (W2.heap[w.heap.size + 1]? = some (.cells #[.int .i64 0, .string ⟨#[]⟩, .int .i64 0, .slice none 0 0] 46 (0, 0))) := hz2
  have HQ0 : Hid (∃ N, QC W2 R0 gc m bs g0 w3 N) := ⟨_, _, _, _, hq0, (fun p hp => by cases hp), ⟨⟨bs, 1, cs0, g0, cap0, [Tm.mk k s n ks], R⟩, by simp, rfl, rfl⟩, rfl⟩
  have HR0 : Hid (R0 = (bs, 1, cs0) :: R) := hR0
  have HCS0 : Hid (cs0 = [Value.int .i64 k, .string s, .int .i64 n, .slice ao ks.length cap]) := hcs0
  have hcap0 : cap0 ≤ maxLen := by
    rcases (hq0.op _ (List.mem_append_right _ (List.mem_singleton.2 rfl))).2 with ⟨h, _⟩ | ⟨_, _, _, h, _, _, _, h2, _⟩
    · cases h
    · cases h; exact h2
  unfold maxLen at hcap0
  clear hbb hsW2 h0 hz2 hq0 hzz hR0 hcs0 hW2 hbs HST HOK HCA HCP HB1 HK x0 x1 x2 x3 HBW hW lW
  go_loopw [] (fun wr => Hid (∃ N, QC W2 R0 gc m bs g0 wr N)) (fun wr => least (QC W2 R0 gc m bs g0 wr))
  case atStart => exact HQ0.out
  case round =>
    obtain ⟨C, O, osl, hI, hcl, hroot, hN⟩ := least_is hrel.out
    have HNL : Hid (R0.length - C.length = least (QC W2 R0 gc m bs g0 wr)) := hN
    obtain ⟨oo, ol, oc, rfl⟩ : ∃ oo ol oc, osl = .slice oo ol oc := by
      rcases hI.stack.2 with ⟨rfl, _⟩ | ⟨_, _, _, rfl, _⟩
      · exact ⟨_, _, _, rfl⟩
      · exact ⟨_, _, _, rfl⟩
    have hol : ol = O.length := by
      rcases hI.stack.2 with ⟨h, h'⟩ | ⟨_, _, _, h, _⟩
      · cases h; exact h'.symm
      · cases h; rfl
    have x2 : wr.cell? ⟨gc, 2, none⟩ = some (.slice oo ol oc) := blk_cell (i := 2) hI.cop (by simp)
    cases hO : O with
    | nil =>
      subst hO
      obtain rfl : ol = 0 := hol
      obtain ⟨y, hy, hyb, hyg⟩ := hroot
      simp only [List.append_nil] at hy
      obtain ⟨d0, d1, d2, d3, F', q0, q1, q2, q3, hown, hfr, hnd⟩ := hI.done H0.out hcl HR0.out HS2.out rfl HCS0.out hy hyb
      rw [hyg] at q0 q1 q2 q3
      have hzr : wr.heap[w.heap.size + 1]? = some (.cells #[.int .i64 0, .string ⟨#[]⟩, .int .i64 0, .slice none 0 0] 46 (0, 0)) := (hI.out.block _ (by omega) (by simp; omega)).trans HZ2.out
      obtain ⟨y0, y1, y2, y3, z0, z1, z2, z3⟩ := blk4 hzr
      obtain ⟨k', s', n', ao', len', cap', hsh⟩ := own_shape hown
      obtain ⟨rfl, rfl, rfl, rfl⟩ : d0 = .int .i64 k' ∧ d1 = .string s' ∧ d2 = .int .i64 n' ∧ d3 = .slice ao' len' cap' := by simpa using hsh
      have HZ : Hid _ := hzr
      have HEND : Hid (∀ w5, w5 = ((((wr.setCell ⟨w.heap.size + 1, 0, none⟩ (.int .i64 k')).setCell ⟨w.heap.size + 1, 1, none⟩ (.string s')).setCell ⟨w.heap.size + 1, 2, none⟩ (.int .i64 n')).setCell ⟨w.heap.size + 1, 3, none⟩ (.slice ao' len' cap')) → Own 46 w5 (.mk k s n ks) (.agg #[.int .i64 k', .string s', .int .i64 n', .slice ao' len' cap']) F' ∧ (∀ f ∈ F', w.heap.size ≤ f) ∧ F'.Nodup ∧ Out [gc, m] w w5) := by
        intro w5 hw5
        refine ⟨Own.keep _ _ _ hown fun f hf => ?_, fun f hf => ?_, hnd, ?_⟩
        · have := hfr f hf
          rw [hw5, blk4_other (by omega)]
        · have := hfr f hf; omega
        · have h1 : Out [gc, m] w wr := (Out.of_below HBB.out).trans hI.out
          refine ⟨by rw [hw5]; exact h1.os, by rw [hw5]; exact h1.tape, by rw [hw5]; exact h1.output, by rw [hw5]; simpa [World.setCell] using h1.size, fun f hf hn => ?_⟩
          rw [hw5, blk4_other (by omega)]
          exact h1.block f hf hn
      clear hI hcl hN hown hfr hnd hzr hsh hrel HNL
      go_wp2
      refine bodyPost_ret_by (results_cell_row rfl _ _ (w.heap.size + 1) 46 _ (0, 0) _ rfl (blk4_set HZ.out) Tryd.underlying46 rfl (by kernel_rfl)) rfl ?_
      exact ⟨_, F', rfl, HEND.out _ rfl⟩
    | cons o1 o2 =>
      have hne : O ≠ [] := by rw [hO]; simp
      clear hO
      obtain ⟨O', x, rfl⟩ : ∃ M p, O = M ++ [p] := ⟨O.dropLast, O.getLast hne, (List.dropLast_concat_getLast hne).symm⟩
      rw [List.length_append, List.length_singleton] at hol
      subst hol
      obtain ⟨ob, rfl⟩ : ∃ ob, oo = some ⟨ob, 0, none⟩ := by
        rcases hI.stack.2 with ⟨h, h'⟩ | ⟨_, _, _, h, _⟩
        · cases h
        · simp at h; exact ⟨_, h.1⟩
      have hstk := hI.stack
      have hoc : O'.length + 1 ≤ oc ∧ oc ≤ maxLen := by
        rcases hstk.2 with ⟨h, h'⟩ | ⟨_, _, _, h, _, _, h1, h2, _⟩
        · cases h
        · simp at h; rw [← h.2] at h1 h2; simp at h1; exact ⟨h1, h2⟩
      obtain ⟨hoc1, hoc2⟩ := hoc
      unfold maxLen at hoc2
      have hxe : wr.cell? ⟨ob, O'.length, none⟩ = some x.sl := by
        have := hstk.cells (g := ob) rfl O'.length x.sl (by simp)
        rwa [Addr.add_lit, Nat.zero_add] at this
      have hent := hI.ents x (by simp)
      have hxr : x.row ∈ R0 := hI.perm.mem_iff.1 (by simp)
      have hxc : CellsOk x.cs x.n 1048576 := H0.out.cells _ hxr
      have hd2 : wr.drew.cell? ⟨gc, 2, none⟩ = some (.slice (some ⟨ob, 0, none⟩) (O'.length + 1) oc) := cell_keep x2 (Below.refl _ _).drew
      have hde : wr.drew.cell? ⟨ob, O'.length, none⟩ = some x.sl := cell_keep hxe (Below.refl _ _).drew
      have hdd : wr.drew.drew.cell? ⟨gc, 2, none⟩ = some (.slice (some ⟨ob, 0, none⟩) (O'.length + 1) oc) := cell_keep x2 (Below.refl _ _).drew.drew
      have hdf : wr.drew.drew.frozen? ⟨gc, 2, none⟩ = false := blk_frozen (((Below.refl wr.heap.size wr).drew.drew.block gc (cell_blk x2)).trans hI.cop) _
      have hpop := hI.pop.below H0.out (Below.refl _ _).drew.drew
      have hxn : x.n ≤ 2097152 := by
        have h1 := hI.ns
        have h2 := H0.out.sum
        simp only [List.map_append, List.map_cons, List.map_nil, List.sum_append, List.sum_cons, List.sum_nil] at h1
        omega
      obtain ⟨hxk, hxn0, hxs⟩ := hent
      have hxcap : x.n ≤ x.cap ∧ x.cap ≤ maxLen := by
        rcases (hI.op x (by simp)).2 with ⟨h, h'⟩ | ⟨_, _, _, h, _, _, h1, h2, _⟩
        · cases h
        · simp only [Ent.sl] at h; cases h; exact ⟨h1, h2⟩
      obtain ⟨hxc1, hxc2⟩ := hxcap
      unfold maxLen at hxc2
      have HLEN : Hid (C.length < R0.length) := by
        have := hI.len
        simp only [List.length_append, List.length_singleton] at this
        show C.length < R0.length
        omega
      have HROOT : Hid (∃ y ∈ (C ++ [(x, 0)]).map (fun p : Ent × Nat => p.1) ++ O', y.b = bs ∧ y.g = g0) := by
        obtain ⟨y, hy, e⟩ := hroot
        refine ⟨y, ?_, e⟩
        simp only [List.mem_append, List.map_append, List.map_cons, List.map_nil, List.mem_singleton] at hy ⊢
        rcases hy with h | h | h <;> simp [h]
      have HCL : Hid (∀ p ∈ C, p.2 = p.1.n) := hcl
      have HXC : Hid (CellsOk x.cs x.n 1048576) := hxc
      have HXS : Hid (x.ks.length = x.n ∧ SrcRow 46 W2 x.ks x.cs x.R) := ⟨hxk, hxs⟩
      unfold Ent.sl at hde
      obtain ⟨w4, hw4⟩ : ∃ w4, w4 = (wr.setCell ⟨gc, 2, none⟩ (.slice (some ⟨ob, 0, none⟩) O'.length oc)).drew.drew := ⟨_, rfl⟩
      rw [← hw4] at hpop
      have HPOP : Hid (Cop W2 R0 w4 gc m (.slice (some ⟨ob, 0, none⟩) O'.length oc) (C ++ [(x, 0)]) O' x.R) := hpop
      clear hI hcl hroot hN hstk hxe hxr hxc hpop hxk hxs hrel hne
      go_wp2
      go_region
      go_wp2
      go_region
      rw [← hw4]
      clear hw4 hd2 hde hdd hdf x2
      go_wp2
      go_loopw [56] (fun vi wr => ∃ (j : Nat), j ≤ x.n ∧ vi = .int .i64 (j : Int) ∧ Hid (∃ O osl P, Cop W2 R0 wr gc m osl (C ++ [(x, j)]) O P ∧ SrcRow 46 W2 (x.ks.drop j) (x.cs.drop (j * 4)) P ∧ ∃ y ∈ (C ++ [(x, j)]).map (fun p : Ent × Nat => p.1) ++ O, y.b = bs ∧ y.g = g0)) (fun i _ => x.n - (intOf i).toNat)
      case atStart => exact ⟨0, by omega, rfl, _, _, _, HPOP.out, by simpa using HXS.out.2, HROOT.out⟩
      case round =>
        obtain ⟨j, hj, rfl, hrel⟩ := hrel
        obtain ⟨O, osl, P, hI, hsr, hroot⟩ := hrel.out
        by_cases hlt : j < x.n
        · have hlk : j < x.ks.length := by rw [HXS.out.1]; exact hlt
          rw [List.drop_eq_getElem_cons hlk] at hsr
          unfold SrcRow at hsr
          obtain ⟨c0, c1, c2, c3, cs', R1, R2, hcs, rfl, hs1, hs2⟩ := hsr
          generalize x.ks[j] = t1 at hs1
          obtain ⟨k1, s1, n1, ks1⟩ := t1
          unfold Src at hs1
          obtain ⟨ao1, cap1, hv1, _, _, _, hs1⟩ := hs1
          obtain ⟨rfl, rfl, rfl, rfl⟩ : c0 = .int .i64 k1 ∧ c1 = .string s1 ∧ c2 = .int .i64 n1 ∧ c3 = .slice ao1 ks1.length cap1 := by simpa using hv1
          have hc3 : x.cs[j * 4 + 3]? = some (.slice ao1 ks1.length cap1) := by
            have := congrArg (fun l : List Value => l[3]?) hcs
            simp only [List.getElem?_drop] at this
            simpa using this
          have hcs' : x.cs.drop ((j + 1) * 4) = cs' := by
            have := congrArg (List.drop 4) hcs
            rw [List.drop_drop] at this
            rw [show (j + 1) * 4 = j * 4 + 4 by omega, this]; rfl
          rw [← hcs'] at hs2
          obtain ⟨gg, cc, hA⟩ := hI.agree H0.out
          have hxrow := hI.cl (x, j) (by simp) gg cc hA
          have hxl := HXC.out.1
          have hcell : wr.cell? ⟨x.g, j * 4 + 3, none⟩ = some (.slice ao1 ks1.length cap1) := by
            have h1 := hxrow.cellAt (j * 4 + 3) (by simp only; omega)
            rw [half_at _ _ _ _ _ (by omega)] at h1
            exact h1.trans hc3
          have hnc : ∀ w', Below wr.heap.size wr w' → Cop W2 R0 w' gc m osl (C ++ [(x, j)]) O (R1 ++ R2) := fun w' hb => hI.below H0.out hb
          have HC3 : Hid (x.cs[j * 4 + 3]? = some (.slice ao1 ks1.length cap1)) := hc3
          have HS2 : Hid (SrcRow 46 W2 (x.ks.drop (j + 1)) (x.cs.drop ((j + 1) * 4)) R2) := hs2
          have HRT : Hid (∃ y ∈ (C ++ [(x, j)]).map (fun p : Ent × Nat => p.1) ++ O, y.b = bs ∧ y.g = g0) := hroot
          rcases hs1 with ⟨rfl, rfl⟩ | ⟨b1, cs1, R1', hks1, rfl, hrow1, rfl, hsr1⟩
          · have HN : Hid (Calls Tryd.prog 104 #[.pointer (some ⟨gc, 0, none⟩), .slice ao1 0 cap1] wr fun e w' => e = .returned (.slice none 0 0) ∧ Below wr.heap.size wr w') := list_nil wr gc ao1 cap1
            have HAF : Hid (∀ w', Below wr.heap.size wr w' → (∃ c, w'.cell? ⟨x.g, j * 4 + 3, none⟩ = some (.slice ao1 0 cap1) ∧ c = w'.frozen? ⟨x.g, j * 4 + 3, none⟩ ∧ c = false) ∧ ∀ w6, w6 = w'.setCell ⟨x.g, j * 4 + 3, none⟩ (.slice none 0 0) → Cop W2 R0 w6 gc m osl (C ++ [(x, j + 1)]) O R2) := fun w' hb => by
              have h1 := hnc w' hb
              refine ⟨⟨_, cell_keep hcell hb, rfl, ?_⟩, fun w6 hw6 => ?_⟩
              · exact row_frozen (row_keep hxrow (hb.block _ (row_lt0 hxrow rfl))) _
              · rw [hw6]
                exact h1.store HXC.out hlt HC3.out fun gg cc _ => cpV_nil gg cc ao1 cap1
            clear hI hcs hv1 hc3 hcs' hs2 hxrow hnc hrel hroot hA
            go_wp2_with (go_at_call 104; refine (Calls.mono HN.out ?_); rintro e w5 ⟨rfl, hb⟩; obtain ⟨⟨_, q1, rfl, q2⟩, q3⟩ := HAF.out w5 hb; have HQ3 : Hid _ := q3; clear hb q3)
            go_roundw
            case rel => exact ⟨j + 1, by omega, by go_num, O, osl, R2, HQ3.out _ rfl, HS2.out, by obtain ⟨y, hy, e⟩ := HRT.out; exact ⟨y, by simpa using hy, e⟩⟩
            case measure => simp [intOf]; omega
          · have hl1 : 0 < ks1.length := by cases ks1 with | nil => exact absurd rfl hks1 | cons _ _ => simp
            have HN := Cop.call (cap := cap1) (ks := ks1) hI H0.out rfl hsr1 hrow1
            replace HN : Hid _ := HN
            have HAF : Hid (∀ w' g' cap' osl', Cop W2 R0 w' gc m osl' (C ++ [(x, j)]) (O ++ [⟨b1, ks1.length, cs1, g', cap', ks1, R1'⟩]) R2 → (∃ c, w'.cell? ⟨x.g, j * 4 + 3, none⟩ = some (.slice (some ⟨b1, 0, none⟩) ks1.length cap1) ∧ c = w'.frozen? ⟨x.g, j * 4 + 3, none⟩ ∧ c = false) ∧ ∀ w6, w6 = w'.setCell ⟨x.g, j * 4 + 3, none⟩ (.slice (some ⟨g', 0, none⟩) ks1.length cap') → Cop W2 R0 w6 gc m osl' (C ++ [(x, j + 1)]) (O ++ [⟨b1, ks1.length, cs1, g', cap', ks1, R1'⟩]) R2) := fun w' g' cap' osl' h1 => by
              obtain ⟨gg, cc, hA⟩ := h1.agree H0.out
              have hr1 := h1.cl (x, j) (by simp) gg cc hA
              refine ⟨⟨_, ?_, rfl, row_frozen hr1 _⟩, fun w6 hw6 => ?_⟩
              · have h2 := hr1.cellAt (j * 4 + 3) (by simp only; omega)
                rw [half_at _ _ _ _ _ (by omega)] at h2
                exact h2.trans HC3.out
              · rw [hw6]
                refine h1.store HXC.out hlt HC3.out fun gg cc hA' => ?_
                obtain ⟨e1, e2⟩ := hA' ⟨b1, ks1.length, cs1, g', cap', ks1, R1'⟩ (by simp)
                rw [cpV_some _ _ _ _ _ hl1]
                simp only at e1 e2
                rw [e1, e2]
            have hcap1 : cap1 ≤ maxLen ∧ ks1.length ≤ cap1 := by
              rcases hrow1.2 with ⟨h, _⟩ | ⟨_, _, _, h, _, _, h1, h2, _⟩
              · cases h
              · cases h; exact ⟨h2, h1⟩
            clear hI hcs hv1 hc3 hcs' hs2 hxrow hnc hrel hroot hA hsr1 hrow1
            go_wp2_with (go_at_call 104; refine (Calls.mono HN.out ?_); rintro e w5 ⟨g', cap', osl', rfl, hcp⟩; obtain ⟨⟨_, q1, rfl, q2⟩, q3⟩ := HAF.out w5 g' cap' osl' hcp; have HQ3 : Hid _ := q3; clear hcp q3)
            go_roundw
            case rel => exact ⟨j + 1, by omega, by go_num, _, osl', R2, HQ3.out _ rfl, HS2.out, by obtain ⟨y, hy, e⟩ := HRT.out; exact ⟨y, (by simp only [List.mem_append, List.map_append, List.map_cons, List.map_nil, List.mem_singleton] at hy ⊢; rcases hy with (h | h) | h <;> simp [h]), e⟩⟩
            case measure => simp [intOf]; omega
        · obtain rfl : j = x.n := by omega
          have hP : P = [] := by
            rw [List.drop_eq_nil_of_le (by rw [HXS.out.1]; omega)] at hsr
            unfold SrcRow at hsr
            exact hsr.2
          subst hP
          have HQ : Hid (∃ N, QC W2 R0 gc m bs g0 wr N ∧ N + 1 = R0.length - C.length) := by
            refine ⟨R0.length - (C ++ [(x, x.n)]).length, ⟨C ++ [(x, x.n)], O, osl, hI, fun p hp => ?_, hroot, rfl⟩, ?_⟩
            · rcases List.mem_append.1 hp with hp | hp
              · exact HCL.out p hp
              · rw [List.mem_singleton] at hp; subst hp; rfl
            · have := HLEN.out
              rw [List.length_append, List.length_singleton]
              omega
          clear hI hsr hroot hrel
          go_wp2
          go_roundw
          case rel => obtain ⟨N, h1, _⟩ := HQ.out; exact ⟨N, h1⟩
          case measure =>
            obtain ⟨N, h1, h2⟩ := HQ.out
            have h3 := least_le h1
            have h4 := HNL.out
            omega
end Go.Proofs.YtmhmlkdoaojimapDoor

/- (*copier).copyOf of a right term: a copy in memory of its own, and nothing is turned. -/
namespace Go.Proofs.YtmhmlkdoaojimapDoor
open Go.RowKit

set_option maxHeartbeats 4000000 in
set_option maxRecDepth 20000 in
theorem copy_sp (t : Tm) (v : Value) (w : World) (gc : Nat) (hin : TmIn w t v) (hwt : t.wt ≤ 1048576) (hsh : t.shp 0) (hr : (match t with | .mk _ _ _ ks => ks.length = 0) ∨ t.ok = true) :
    Calls Tryd.prog 88 #[.pointer (some ⟨gc, 0, none⟩), v] w fun e w' => ∃ v' F', e = .returned v' ∧ Own 46 w' t v' F' ∧ (∀ f ∈ F', w.heap.size ≤ f) ∧ F'.Nodup ∧ Below w.heap.size w w' := by
  obtain ⟨k, s, n, ks⟩ := t
  have hr' : ks.length = 0 ∨ (Tm.mk k s n ks).ok = true := hr
  clear hr
  have hin' := hin
  unfold TmIn at hin
  obtain ⟨ao, cap, rfl, hk, hn, hs, hlen, hcap, _⟩ := hin
  obtain ⟨W, hW⟩ : ∃ W, W = (w.alloc (.cells #[.int .i64 k, .string s, .int .i64 n, .slice ao ks.length cap] 46)).alloc (.cells #[.int .i64 0, .string ⟨#[]⟩, .int .i64 0, .slice none 0 0] 46) := ⟨_, rfl⟩
  have bW : Below w.heap.size w W := by rw [hW]; exact ((Below.refl _ _).alloc (Nat.le_refl _) _).alloc (by simp) _
  have k1 : W.heap[w.heap.size]? = some (.cells #[.int .i64 k, .string s, .int .i64 n, .slice ao ks.length cap] 46 (0, 0)) := by rw [hW]; exact (alloc_old _ _ (by simp)).trans (alloc_at _ _ rfl)
  have k2 : W.heap[w.heap.size + 1]? = some (.cells #[.int .i64 0, .string ⟨#[]⟩, .int .i64 0, .slice none 0 0] 46 (0, 0)) := by rw [hW]; exact alloc_at _ _ (by simp)
  have lW : W.heap.size = w.heap.size + 2 := by rw [hW]; simp
  have HK : Hid (∀ w1, Below W.heap.size W w1 → w1.heap[w.heap.size]? = some (.cells #[.int .i64 k, .string s, .int .i64 n, .slice ao ks.length cap] 46 (0, 0)) ∧ w1.heap[w.heap.size + 1]? = some (.cells #[.int .i64 0, .string ⟨#[]⟩, .int .i64 0, .slice none 0 0] 46 (0, 0))) := fun w1 hb => ⟨(hb.block _ (by omega)).trans k1, (hb.block _ (by omega)).trans k2⟩
  have HBW : Hid (Below w.heap.size w W) := bW
  unfold maxLen at hcap
  have HOK := implOk _ W _ (TmIn.keep bW _ _ hin')
  have HSR : Hid (∀ w1, Below W.heap.size W w1 → Calls Tryd.prog 55 #[.agg #[.int .i64 k, .string s, .int .i64 n, .slice ao ks.length cap], .int .i64 0] w1 fun e w' => ∃ v' F, e = .returned v' ∧ Own 46 w' (.mk k s n ks) v' F ∧ (∀ f ∈ F, w1.heap.size ≤ f) ∧ F.Nodup ∧ Below w1.heap.size w1 w') := fun w1 hb => by
    have := shifted_right 0 (.mk k s n ks) w1 _ (TmIn.keep (bW.trans (hb.mono bW.size)) _ _ hin') (by omega) hsh
    rwa [shift_zero] at this
  have HE : Hid (∀ w1 w2 v' F', Below W.heap.size W w1 → Own 46 w2 (.mk k s n ks) v' F' → (∀ f ∈ F', w1.heap.size ≤ f) → Below w1.heap.size w1 w2 → (∀ f ∈ F', w.heap.size ≤ f) ∧ ∀ d0 d1 d2 d3 w3, w3 = ((((w2.setCell ⟨w.heap.size + 1, 0, none⟩ d0).setCell ⟨w.heap.size + 1, 1, none⟩ d1).setCell ⟨w.heap.size + 1, 2, none⟩ d2).setCell ⟨w.heap.size + 1, 3, none⟩ d3) →
      Own 46 w3 (.mk k s n ks) v' F' ∧ Below w.heap.size w w3) := by
    intro w1 w2 v' F' hb1 ho hf hb2
    have hs1 := hb1.size
    refine ⟨fun f hf' => by have := hf f hf'; omega, fun d0 d1 d2 d3 w3 hw3 => ⟨Own.keep _ _ _ ho fun f hf' => ?_, ?_⟩⟩
    · have := hf f hf'
      rw [hw3, blk4_other (by omega)]
    · rw [hw3]
      exact blk4_below (bW.trans ((hb1.trans (hb2.mono hb1.size)).mono bW.size)) (by omega)
  clear hsh hin' bW k1 k2 hwt
  by_cases hk0 : ks.length = 0
  · rw [hk0] at hW HK HSR ⊢
    have HS0 := HSR.out W (Below.refl _ _)
    rw [hW] at HS0
    replace HS0 : Hid _ := HS0
    clear HOK HSR hlen hr'
    go_enter Tryd.func88, Tryd.ntmps88
    go_wp2_with (go_at_call 55; refine (Calls.mono HS0.out ?_); rintro e w2 ⟨v', F2, rfl, ho, hfr, hnd, hb⟩; rw [← hW] at hfr hb; obtain ⟨k', s', n', ao', len', cap', rfl⟩ := own_shape ho; have hz := (HK.out w2 hb).2; obtain ⟨y0, y1, y2, y3, z0, z1, z2, z3⟩ := blk4 hz; have HX : Hid _ := HE.out W w2 _ F2 (Below.refl _ _) ho hfr hb; have HZ : Hid _ := hz; have HND : Hid F2.Nodup := hnd; clear ho hfr hb hz hnd)
    refine bodyPost_ret_by (results_cell_row rfl _ _ (w.heap.size + 1) 46 _ (0, 0) _ rfl (blk4_set HZ.out) Tryd.underlying46 rfl (by kernel_rfl)) rfl ?_
    exact ⟨_, F2, rfl, (HX.out.2 _ _ _ _ _ rfl).1, HX.out.1, HND.out, (HX.out.2 _ _ _ _ _ rfl).2⟩
  · rw [hr'.resolve_left hk0, hW] at HOK
    replace HOK : Hid _ := HOK
    have hk1 : ((ks.length : Int) == 0) = false := by rw [nat0]; exact decide_eq_false hk0
    clear hk0 hr'
    go_enter Tryd.func88, Tryd.ntmps88
    go_wp2_with (first | (go_at_call 50; refine (Calls.mono HOK.out ?_); rintro e w1 ⟨rfl, hb⟩; rw [← hW] at hb; obtain ⟨x0, x1, x2, x3, _⟩ := blk4 (HK.out w1 hb).1; have HS1 : Hid _ := HSR.out w1 hb; have HB1 : Hid (Below W.heap.size W w1) := hb; clear hb) | (go_at_call 55; refine (Calls.mono HS1.out ?_); rintro e w2 ⟨v', F2, rfl, ho, hfr, hnd, hb⟩; obtain ⟨k', s', n', ao', len', cap', rfl⟩ := own_shape ho; have hz := (HK.out w2 (HB1.out.trans (hb.mono HB1.out.size))).2; obtain ⟨y0, y1, y2, y3, z0, z1, z2, z3⟩ := blk4 hz; have HX : Hid _ := HE.out w1 w2 _ F2 HB1.out ho hfr hb; have HZ : Hid _ := hz; have HND : Hid F2.Nodup := hnd; clear ho hfr hb hz hnd))
    refine bodyPost_ret_by (results_cell_row rfl _ _ (w.heap.size + 1) 46 _ (0, 0) _ rfl (blk4_set HZ.out) Tryd.underlying46 rfl (by kernel_rfl)) rfl ?_
    exact ⟨_, F2, rfl, (HX.out.2 _ _ _ _ _ rfl).1, HX.out.1, HND.out, (HX.out.2 _ _ _ _ _ rfl).2⟩
theorem copy_ok (t : Tm) (v : Value) (w : World) (gc : Nat) (hin : TmIn w t v) (hok : t.ok = true) :
    Calls Tryd.prog 88 #[.pointer (some ⟨gc, 0, none⟩), v] w fun e w' => ∃ v' F', e = .returned v' ∧ Own 46 w' t v' F' ∧ (∀ f ∈ F', w.heap.size ≤ f) ∧ F'.Nodup ∧ Below w.heap.size w w' :=
  copy_sp t v w gc hin (by have := ok_wt hok; omega) (right_shp 0 (by omega) _ 1 (okk_right hok)) (Or.inr hok)
theorem copy_leaf (k : Int) (s : ByteArray) (n : Int) (ks : List Tm) (v : Value) (w : World) (gc : Nat) (hin : TmIn w (.mk k s n ks) v) (hwt : (Tm.mk k s n ks).wt ≤ 1048576) (h : ks.length = 0) :
    Calls Tryd.prog 88 #[.pointer (some ⟨gc, 0, none⟩), v] w fun e w' => ∃ v' F', e = .returned v' ∧ Own 46 w' (.mk k s n ks) v' F' ∧ (∀ f ∈ F', w.heap.size ≤ f) ∧ F'.Nodup ∧ Below w.heap.size w w' := by
  refine copy_sp _ v w gc hin hwt ?_ (Or.inl h)
  obtain rfl : ks = [] := List.eq_nil_of_length_eq_zero h
  unfold TmIn at hin
  obtain ⟨_, _, _, _, h2, _⟩ := hin
  rw [shp_mk]
  exact ⟨fun _ => by omega, Or.inl rfl, trivial⟩
end Go.Proofs.YtmhmlkdoaojimapDoor

/- (*copier).copyOf of a copier that was used before: a copy in memory of its own. -/
namespace Go.Proofs.YtmhmlkdoaojimapDoor
open Go.RowKit

/-- what a call leaves -/
def KPost (T0 : Nat) (D0 : List Nat) (osl : Value) (gc m : Nat) (t : Tm) (F : List Nat) (w : World) (e : Ending) (w' : World) : Prop :=
  ∃ v' F' T1 D1 osl', e = .returned v' ∧ Own 46 w' t v' F' ∧ (∀ f ∈ F', w.heap.size ≤ f ∧ osl'.ownBlock ≠ some f) ∧ F'.Nodup ∧ Out (gc :: m :: osl.ownBlock.toList) w w' ∧ KSt w' gc m T1 D1 osl' ∧ T1 ≤ T0 + (t.wt + 1) ∧ (∀ d ∈ D1, d ∈ D0 ∨ d ∈ F ∨ w.heap.size ≤ d) ∧ (∀ z, osl'.ownBlock = some z → osl.ownBlock = some z ∨ w.heap.size ≤ z)

set_option maxHeartbeats 4000000 in
set_option maxRecDepth 20000 in
theorem copy_any (t : Tm) (v : Value) (F : List Nat) (w : World) (gc m T0 : Nat) (D0 : List Nat) (osl : Value) (hown : Own 46 w t v F) (hnd : F.Nodup) (hwt : t.wt ≤ 1048576) (hst : KSt w gc m T0 D0 osl) (hT : T0 ≤ 2097152) (hF : ∀ f ∈ F, f ≠ gc ∧ f ≠ m ∧ osl.ownBlock ≠ some f ∧ f ∉ D0) :
    Calls Tryd.prog 88 #[.pointer (some ⟨gc, 0, none⟩), v] w (KPost T0 D0 osl gc m t F w) := by
  obtain ⟨k, s, n, ks⟩ := t
  have hlt := Own.lt _ _ _ hown
  have hin := Own.toIn _ _ _ hown
  have hin' := hin
  unfold TmIn at hin
  obtain ⟨ao, cap, rfl, hk, hn, hs, hlen, hcap, _⟩ := hin
  obtain ⟨W, hW⟩ : ∃ W, W = (w.alloc (.cells #[.int .i64 k, .string s, .int .i64 n, .slice ao ks.length cap] 46)).alloc (.cells #[.int .i64 0, .string ⟨#[]⟩, .int .i64 0, .slice none 0 0] 46) := ⟨_, rfl⟩
  have bW : Below w.heap.size w W := by rw [hW]; exact ((Below.refl _ _).alloc (Nat.le_refl _) _).alloc (by simp) _
  have k1 : W.heap[w.heap.size]? = some (.cells #[.int .i64 k, .string s, .int .i64 n, .slice ao ks.length cap] 46 (0, 0)) := by rw [hW]; exact (alloc_old _ _ (by simp)).trans (alloc_at _ _ rfl)
  have k2 : W.heap[w.heap.size + 1]? = some (.cells #[.int .i64 0, .string ⟨#[]⟩, .int .i64 0, .slice none 0 0] 46 (0, 0)) := by rw [hW]; exact alloc_at _ _ (by simp)
  have lW : W.heap.size = w.heap.size + 2 := by rw [hW]; simp
  have HK : Hid (∀ w1, Below W.heap.size W w1 → w1.heap[w.heap.size]? = some (.cells #[.int .i64 k, .string s, .int .i64 n, .slice ao ks.length cap] 46 (0, 0)) ∧ w1.heap[w.heap.size + 1]? = some (.cells #[.int .i64 0, .string ⟨#[]⟩, .int .i64 0, .slice none 0 0] 46 (0, 0))) := fun w1 hb => ⟨(hb.block _ (by omega)).trans k1, (hb.block _ (by omega)).trans k2⟩
  have HBW : Hid (Below w.heap.size w W) := bW
  have hl20 : ks.length ≤ 1048576 := by
    have ew : (Tm.mk k s n ks).wt = s.size + (ks.length + wts ks) := by simp [Tm.wt, wts]; omega
    omega
  unfold maxLen at hcap
  have hgm := hst.gm
  have HOK := implOk _ W _ (TmIn.keep bW _ _ hin')
  by_cases hr : ks.length = 0 ∨ (Tm.mk k s n ks).ok = true
  · have hfin : Calls Tryd.prog 88 #[.pointer (some ⟨gc, 0, none⟩), .agg #[.int .i64 k, .string s, .int .i64 n, .slice ao ks.length cap]] w fun e w' => ∃ v' F', e = .returned v' ∧ Own 46 w' (.mk k s n ks) v' F' ∧ (∀ f ∈ F', w.heap.size ≤ f) ∧ F'.Nodup ∧ Below w.heap.size w w' := by
      rcases hr with h | h
      · exact copy_leaf _ _ _ _ _ w gc hin' hwt h
      · exact copy_ok _ _ w gc hin' h
    refine Calls.mono hfin ?_
    rintro e w' ⟨v', F', rfl, o, f, nd, hb⟩
    exact ⟨v', F', T0, D0, osl, rfl, o, fun x hx => ⟨f x hx, fun e => by have := f x hx; have := hst.lt x (Or.inr (Or.inr (Or.inr e))); omega⟩, nd, Out.of_below hb, hst.keep hb, by omega, fun d hd => Or.inl hd, fun z hz => Or.inl hz⟩
  have hk0 : ¬ ks.length = 0 := fun h => hr (Or.inl h)
  have hok : (Tm.mk k s n ks).ok = false := by cases h : (Tm.mk k s n ks).ok with | false => rfl | true => exact absurd (Or.inr h) hr
  obtain ⟨R, hsrc, hsub⟩ := own_src _ _ _ hown
  have hgl : gc < w.heap.size := hst.lt _ (Or.inl rfl)
  have hml : m < w.heap.size := hst.lt _ (Or.inr (Or.inl rfl))
  have HST : Hid (∀ w1, Below W.heap.size W w1 → ∀ W2, W2 = w1.alloc (.cells #[.int .i64 k, .string s, .int .i64 n, .slice ao ks.length cap] 46) → Below w.heap.size w W2 ∧ Src 46 W2 (.mk k s n ks) (.agg #[.int .i64 k, .string s, .int .i64 n, .slice ao ks.length cap]) R ∧
      Rows1 W2 ((w1.heap.size, 1, [.int .i64 k, .string s, .int .i64 n, .slice ao ks.length cap]) :: R) gc m T0 D0 osl.ownBlock.toList ∧ Kop W2 ((w1.heap.size, 1, [.int .i64 k, .string s, .int .i64 n, .slice ao ks.length cap]) :: R) T0 D0 osl.ownBlock.toList W2 gc m osl [] [] (((w1.heap.size, 1, [.int .i64 k, .string s, .int .i64 n, .slice ao ks.length cap]) :: R) ++ []) ∧ W2.ownsRow 0 46 4 (.slice (some ⟨w1.heap.size, 0, none⟩) 1 1) 1 [.int .i64 k, .string s, .int .i64 n, .slice ao ks.length cap] ∧ SrcRow 46 W2 [.mk k s n ks] [.int .i64 k, .string s, .int .i64 n, .slice ao ks.length cap] R) := by
    intro w1 hb W2 hW2
    have hb2 : Below w1.heap.size w1 W2 := by rw [hW2]; exact (Below.refl _ _).alloc (Nat.le_refl _) _
    have hb1 := bW.trans (hb.mono bW.size)
    have hbb : Below w.heap.size w W2 := hb1.trans (hb2.mono hb1.size)
    have hs1 := hb.size
    have hsW2 : Src 46 W2 (.mk k s n ks) (.agg #[.int .i64 k, .string s, .int .i64 n, .slice ao ks.length cap]) R := Src.keep _ _ _ hsrc fun r hr' => hbb.block _ (hlt _ (hsub.subset (List.mem_map_of_mem hr')))
    have hlk : ∀ k, (k = gc ∨ k = m ∨ k ∈ D0 ∨ osl.ownBlock = some k) → k < w1.heap.size := fun k hk => by have := hst.lt k hk; omega
    refine ⟨hbb, hsW2, kop_start (F := F) hsW2 hwt ⟨_, _, _, _, rfl, rfl⟩ hsub hnd (fun f hf => ⟨(hF f hf).1, (hF f hf).2.1, by have := hlt f hf; omega, (hF f hf).2.2.1, (hF f hf).2.2.2⟩) ⟨by omega, by omega, fun e => by have := hlk _ (Or.inr (Or.inr (Or.inr e))); omega, fun e => by have := hlk _ (Or.inr (Or.inr (Or.inl e))); omega⟩ (hst.keep hbb) hT ?_⟩
    rw [hW2]; exact heap_alloc_new w1 _
  have hk1 : ((ks.length : Int) == 0) = false := by rw [nat0]; exact decide_eq_false hk0
  rw [hok, hW] at HOK
  replace HOK : Hid _ := HOK
  have HSUB : Hid ((∀ f ∈ F, f < w.heap.size) ∧ (∀ r ∈ R, r.1 ∈ F)) := ⟨hlt, fun r hr => hsub.subset (List.mem_map_of_mem hr)⟩
  have hsr := (Src.rows _ _ _ hsrc).2
  have HSR2 : Hid ((R.map (·.2.1)).sum ≤ (Tm.mk k s n ks).wt) := hsr
  have HKL : Hid (∀ k, (k = gc ∨ k = m ∨ k ∈ D0 ∨ osl.ownBlock = some k) → k < w.heap.size) := hst.lt
  clear hr hok hown hnd hst hT hF hlt hin' bW k1 k2 hwt hsrc hsub hk0 hsr
  go_enter Tryd.func88, Tryd.ntmps88
  go_wp2_with (first | (go_at_call 50; refine (Calls.mono HOK.out ?_); rintro e w1 ⟨rfl, hb⟩; rw [← hW] at hb; obtain ⟨x0, x1, x2, x3, _⟩ := blk4 (HK.out w1 hb).1; have HB1 : Hid (Below W.heap.size W w1) := hb; have HCA := (let h := HST.out w1 hb _ rfl; Kop.call (cap := 1) (ks := [Tm.mk k s n ks]) h.2.2.2.1 h.2.2.1 rfl h.2.2.2.2.2 h.2.2.2.2.1); replace HCA : Hid _ := HCA; clear hb) | (go_at_call 104; refine (Calls.mono HCA.out ?_); rintro e w3 ⟨g0, cap0, osl0, rfl, hcop⟩; have HCP : Hid _ := hcop; clear hcop))
  obtain ⟨W2, hW2⟩ : ∃ W2, W2 = w1.alloc (.cells #[.int .i64 k, .string s, .int .i64 n, .slice ao ks.length cap] 46) := ⟨_, rfl⟩
  obtain ⟨bs, hbs⟩ : ∃ bs, bs = w1.heap.size := ⟨_, rfl⟩
  obtain ⟨cs0, hcs0⟩ : ∃ cs0, cs0 = [Value.int .i64 k, .string s, .int .i64 n, .slice ao ks.length cap] := ⟨_, rfl⟩
  obtain ⟨R0, hR0⟩ : ∃ R0, R0 = (bs, 1, cs0) :: R := ⟨_, rfl⟩
  have hall := HST.out w1 HB1.out W2 hW2
  have hzz := HK.out w1 HB1.out
  have hq0 := HCP.out
  rw [← hW2] at hq0
  have hbb := hall.1
  have hsW2 := hall.2.1
  have h0 := hall.2.2.1
  clear hall
  rw [← hbs, ← hcs0, ← hR0] at h0 hq0
  have HBS : Hid (w.heap.size + 2 ≤ bs) := by
    have := HB1.out.size
    show _ ≤ _
    rw [hbs]; omega
  have hw2s : w.heap.size + 2 ≤ W2.heap.size := by
    have := HB1.out.size
    rw [hW2]; simp; omega
  have hz2 : W2.heap[w.heap.size + 1]? = some (.cells #[.int .i64 0, .string ⟨#[]⟩, .int .i64 0, .slice none 0 0] 46 (0, 0)) := by
    rw [hW2]; exact (alloc_old _ _ (by have := HB1.out.size; omega)).trans hzz.2
  have HBB : Hid (Below w.heap.size w W2) := hbb
  have HS2 : Hid (Src 46 W2 (.mk k s n ks) (.agg #[.int .i64 k, .string s, .int .i64 n, .slice ao ks.length cap]) R) := hsW2
  have H0 : Hid (Rows1 W2 R0 gc m T0 D0 osl.ownBlock.toList) := h0
  have HZ2 : Hid (W2.heap[w.heap.size + 1]? = some (.cells #[.int .i64 0, .string ⟨#[]⟩, .int .i64 0, .slice none 0 0] 46 (0, 0))) := hz2
  have HQ0 : Hid (∃ N, QK W2 R0 T0 D0 osl.ownBlock.toList gc m bs g0 w3 N) := ⟨_, _, _, _, hq0, (fun p hp => by cases hp), ⟨⟨bs, 1, cs0, g0, cap0, [Tm.mk k s n ks], R⟩, by simp, rfl, rfl⟩, rfl⟩
  have HR0 : Hid (R0 = (bs, 1, cs0) :: R) := hR0
  have HCS0 : Hid (cs0 = [Value.int .i64 k, .string s, .int .i64 n, .slice ao ks.length cap]) := hcs0
  have hcap0 : cap0 ≤ maxLen := by
    rcases (hq0.op _ (List.mem_append_right _ (List.mem_singleton.2 rfl))).2 with ⟨h, _⟩ | ⟨_, _, _, h, _, _, _, h2, _⟩
    · cases h
    · cases h; exact h2
  unfold maxLen at hcap0
  clear hbb hsW2 h0 hz2 hq0 hzz hR0 hcs0 hW2 hbs HST HOK HCA HCP HB1 HK x0 x1 x2 x3 HBW hW lW
  go_loopw [] (fun wr => Hid (∃ N, QK W2 R0 T0 D0 osl.ownBlock.toList gc m bs g0 wr N)) (fun wr => least (QK W2 R0 T0 D0 osl.ownBlock.toList gc m bs g0 wr))
  case atStart => exact HQ0.out
  case round =>
    obtain ⟨C, O, oslx, hI, hcl, hroot, hN⟩ := least_is hrel.out
    have HNL : Hid (R0.length - C.length = least (QK W2 R0 T0 D0 osl.ownBlock.toList gc m bs g0 wr)) := hN
    obtain ⟨oo, ol, oc, rfl⟩ : ∃ oo ol oc, oslx = .slice oo ol oc := by
      rcases hI.stack.2 with ⟨rfl, _⟩ | ⟨_, _, _, rfl, _⟩
      · exact ⟨_, _, _, rfl⟩
      · exact ⟨_, _, _, rfl⟩
    have hol : ol = O.length := by
      rcases hI.stack.2 with ⟨h, h'⟩ | ⟨_, _, _, h, _⟩
      · cases h; exact h'.symm
      · cases h; rfl
    have x2 : wr.cell? ⟨gc, 2, none⟩ = some (.slice oo ol oc) := blk_cell (i := 2) hI.cop (by simp)
    cases hO : O with
    | nil =>
      subst hO
      obtain rfl : ol = 0 := hol
      obtain ⟨y, hy, hyb, hyg⟩ := hroot
      simp only [List.append_nil] at hy
      obtain ⟨d0, d1, d2, d3, F', q0, q1, q2, q3, hown, hfr, hnd⟩ := hI.done H0.out hcl HR0.out HS2.out rfl HCS0.out hy hyb
      rw [hyg] at q0 q1 q2 q3
      have hzr : wr.heap[w.heap.size + 1]? = some (.cells #[.int .i64 0, .string ⟨#[]⟩, .int .i64 0, .slice none 0 0] 46 (0, 0)) := (hI.out.block _ (by omega) (fun h9 => by simp only [List.mem_cons] at h9; rcases h9 with h9 | h9 | h9; (· omega); (· omega); (· have := HKL.out _ (Or.inr (Or.inr (Or.inr (by simpa using h9)))); omega))).trans HZ2.out
      obtain ⟨y0, y1, y2, y3, z0, z1, z2, z3⟩ := blk4 hzr
      obtain ⟨k', s', n', ao', len', cap', hsh⟩ := own_shape hown
      obtain ⟨rfl, rfl, rfl, rfl⟩ : d0 = .int .i64 k' ∧ d1 = .string s' ∧ d2 = .int .i64 n' ∧ d3 = .slice ao' len' cap' := by simpa using hsh
      have HZ : Hid _ := hzr
      obtain ⟨hke, hkd⟩ := kop_end hI H0.out
      have hgfr := hI.gfr
      have hofr := hI.ofr
      have HEND : Hid (∀ w5, w5 = ((((wr.setCell ⟨w.heap.size + 1, 0, none⟩ (.int .i64 k')).setCell ⟨w.heap.size + 1, 1, none⟩ (.string s')).setCell ⟨w.heap.size + 1, 2, none⟩ (.int .i64 n')).setCell ⟨w.heap.size + 1, 3, none⟩ (.slice ao' len' cap')) → KPost T0 D0 osl gc m (.mk k s n ks) F w (.returned (.agg #[.int .i64 k', .string s', .int .i64 n', .slice ao' len' cap'])) w5) := by
        intro w5 hw5
        have hD1 : ∀ d ∈ (C.map (·.1)).map (·.b) ++ D0, d ∈ D0 ∨ d ∈ F ∨ w.heap.size + 2 ≤ d := fun d hd => by
          rcases hkd d hd with h | h
          · exact Or.inl h
          · rw [HR0.out] at h
            rcases List.mem_cons.1 h with h | h
            · exact Or.inr (Or.inr (by rw [h]; exact HBS.out))
            · obtain ⟨r, hr, rfl⟩ := List.mem_map.1 h
              exact Or.inr (Or.inl (HSUB.out.2 r hr))
        refine ⟨_, F', _, _, _, rfl, Own.keep _ _ _ hown fun f hf => ?_, fun f hf => ⟨?_, (hfr f hf).2⟩, hnd, ?_, hke.turn fun q hq => ?_, ?_, fun d hd => ?_, ?_⟩
        · have := (hfr f hf).1
          rw [hw5, blk4_other (by omega)]
        · have := (hfr f hf).1; omega
        · have h1 : Out (gc :: m :: osl.ownBlock.toList) w wr := (Out.of_below HBB.out).trans hI.out
          refine ⟨by rw [hw5]; exact h1.os, by rw [hw5]; exact h1.tape, by rw [hw5]; exact h1.output, by rw [hw5]; simpa [World.setCell] using h1.size, fun f hf hn => ?_⟩
          rw [hw5, blk4_other (by omega)]
          exact h1.block f hf hn
        · rw [hw5]
          refine blk4_other ?_
          rcases hq with rfl | rfl | hq | hq
          · have := HKL.out _ (Or.inl rfl); omega
          · have := HKL.out _ (Or.inr (Or.inl rfl)); omega
          · rcases hD1 q hq with h | h | h
            · have := HKL.out q (Or.inr (Or.inr (Or.inl h))); omega
            · have := HSUB.out.1 q h; omega
            · omega
          · rcases hofr q hq with h | h
            · omega
            · have := HKL.out q (Or.inr (Or.inr (Or.inr (by simpa using h)))); omega
        · rw [HR0.out, List.map_cons, List.sum_cons]
          have := HSR2.out
          show T0 + (1 + _) ≤ T0 + ((Tm.mk k s n ks).wt + 1)
          omega
        · rcases hD1 d hd with h | h | h
          · exact Or.inl h
          · exact Or.inr (Or.inl h)
          · exact Or.inr (Or.inr (by omega))
        · intro z hz
          rcases hofr z hz with h | h
          · exact Or.inr (by omega)
          · exact Or.inl (by simpa using h)
      clear hI hcl hN hown hfr hnd hzr hsh hrel HNL hke hkd hgfr hofr
      go_wp2
      refine bodyPost_ret_by (results_cell_row rfl _ _ (w.heap.size + 1) 46 _ (0, 0) _ rfl (blk4_set HZ.out) Tryd.underlying46 rfl (by kernel_rfl)) rfl ?_
      exact HEND.out _ rfl
    | cons o1 o2 =>
      have hne : O ≠ [] := by rw [hO]; simp
      clear hO
      obtain ⟨O', x, rfl⟩ : ∃ M p, O = M ++ [p] := ⟨O.dropLast, O.getLast hne, (List.dropLast_concat_getLast hne).symm⟩
      rw [List.length_append, List.length_singleton] at hol
      subst hol
      obtain ⟨ob, rfl⟩ : ∃ ob, oo = some ⟨ob, 0, none⟩ := by
        rcases hI.stack.2 with ⟨h, h'⟩ | ⟨_, _, _, h, _⟩
        · cases h
        · simp at h; exact ⟨_, h.1⟩
      have hstk := hI.stack
      have hoc : O'.length + 1 ≤ oc ∧ oc ≤ maxLen := by
        rcases hstk.2 with ⟨h, h'⟩ | ⟨_, _, _, h, _, _, h1, h2, _⟩
        · cases h
        · simp at h; rw [← h.2] at h1 h2; simp at h1; exact ⟨h1, h2⟩
      obtain ⟨hoc1, hoc2⟩ := hoc
      unfold maxLen at hoc2
      have hxe : wr.cell? ⟨ob, O'.length, none⟩ = some x.sl := by
        have := hstk.cells (g := ob) rfl O'.length x.sl (by simp)
        rwa [Addr.add_lit, Nat.zero_add] at this
      have hent := hI.ents x (by simp)
      have hxr : x.row ∈ R0 := hI.perm.mem_iff.1 (by simp)
      have hxc : CellsOk x.cs x.n 1048576 := H0.out.cells _ hxr
      have hd2 : wr.drew.cell? ⟨gc, 2, none⟩ = some (.slice (some ⟨ob, 0, none⟩) (O'.length + 1) oc) := cell_keep x2 (Below.refl _ _).drew
      have hde : wr.drew.cell? ⟨ob, O'.length, none⟩ = some x.sl := cell_keep hxe (Below.refl _ _).drew
      have hdd : wr.drew.drew.cell? ⟨gc, 2, none⟩ = some (.slice (some ⟨ob, 0, none⟩) (O'.length + 1) oc) := cell_keep x2 (Below.refl _ _).drew.drew
      have hdf : wr.drew.drew.frozen? ⟨gc, 2, none⟩ = false := blk_frozen (((Below.refl wr.heap.size wr).drew.drew.block gc (cell_blk x2)).trans hI.cop) _
      have hpop := hI.pop.below H0.out (Below.refl _ _).drew.drew
      have hxn : x.n ≤ 2097152 := by
        have h1 := hI.ns
        have h2 := H0.out.sum
        simp only [List.map_append, List.map_cons, List.map_nil, List.sum_append, List.sum_cons, List.sum_nil] at h1
        omega
      obtain ⟨hxk, hxn0, hxs⟩ := hent
      have hxcap : x.n ≤ x.cap ∧ x.cap ≤ maxLen := by
        rcases (hI.op x (by simp)).2 with ⟨h, h'⟩ | ⟨_, _, _, h, _, _, h1, h2, _⟩
        · cases h
        · simp only [Ent.sl] at h; cases h; exact ⟨h1, h2⟩
      obtain ⟨hxc1, hxc2⟩ := hxcap
      unfold maxLen at hxc2
      have HLEN : Hid (C.length < R0.length) := by
        have := hI.len
        simp only [List.length_append, List.length_singleton] at this
        show C.length < R0.length
        omega
      have HROOT : Hid (∃ y ∈ (C ++ [(x, 0)]).map (fun p : Ent × Nat => p.1) ++ O', y.b = bs ∧ y.g = g0) := by
        obtain ⟨y, hy, e⟩ := hroot
        refine ⟨y, ?_, e⟩
        simp only [List.mem_append, List.map_append, List.map_cons, List.map_nil, List.mem_singleton] at hy ⊢
        rcases hy with h | h | h <;> simp [h]
      have HCL : Hid (∀ p ∈ C, p.2 = p.1.n) := hcl
      have HXC : Hid (CellsOk x.cs x.n 1048576) := hxc
      have HXS : Hid (x.ks.length = x.n ∧ SrcRow 46 W2 x.ks x.cs x.R) := ⟨hxk, hxs⟩
      unfold Ent.sl at hde
      obtain ⟨w4, hw4⟩ : ∃ w4, w4 = (wr.setCell ⟨gc, 2, none⟩ (.slice (some ⟨ob, 0, none⟩) O'.length oc)).drew.drew := ⟨_, rfl⟩
      rw [← hw4] at hpop
      have HPOP : Hid (Kop W2 R0 T0 D0 osl.ownBlock.toList w4 gc m (.slice (some ⟨ob, 0, none⟩) O'.length oc) (C ++ [(x, 0)]) O' x.R) := hpop
      clear hI hcl hroot hN hstk hxe hxr hxc hpop hxk hxs hrel hne
      go_wp2
      go_region
      go_wp2
      go_region
      rw [← hw4]
      clear hw4 hd2 hde hdd hdf x2
      go_wp2
      go_loopw [56] (fun vi wr => ∃ (j : Nat), j ≤ x.n ∧ vi = .int .i64 (j : Int) ∧ Hid (∃ O oslx P, Kop W2 R0 T0 D0 osl.ownBlock.toList wr gc m oslx (C ++ [(x, j)]) O P ∧ SrcRow 46 W2 (x.ks.drop j) (x.cs.drop (j * 4)) P ∧ ∃ y ∈ (C ++ [(x, j)]).map (fun p : Ent × Nat => p.1) ++ O, y.b = bs ∧ y.g = g0)) (fun i _ => x.n - (intOf i).toNat)
      case atStart => exact ⟨0, by omega, rfl, _, _, _, HPOP.out, by simpa using HXS.out.2, HROOT.out⟩
      case round =>
        obtain ⟨j, hj, rfl, hrel⟩ := hrel
        obtain ⟨O, oslx, P, hI, hsr, hroot⟩ := hrel.out
        by_cases hlt : j < x.n
        · have hlk : j < x.ks.length := by rw [HXS.out.1]; exact hlt
          rw [List.drop_eq_getElem_cons hlk] at hsr
          unfold SrcRow at hsr
          obtain ⟨c0, c1, c2, c3, cs', R1, R2, hcs, rfl, hs1, hs2⟩ := hsr
          generalize x.ks[j] = t1 at hs1
          obtain ⟨k1, s1, n1, ks1⟩ := t1
          unfold Src at hs1
          obtain ⟨ao1, cap1, hv1, _, _, _, hs1⟩ := hs1
          obtain ⟨rfl, rfl, rfl, rfl⟩ : c0 = .int .i64 k1 ∧ c1 = .string s1 ∧ c2 = .int .i64 n1 ∧ c3 = .slice ao1 ks1.length cap1 := by simpa using hv1
          have hc3 : x.cs[j * 4 + 3]? = some (.slice ao1 ks1.length cap1) := by
            have := congrArg (fun l : List Value => l[3]?) hcs
            simp only [List.getElem?_drop] at this
            simpa using this
          have hcs' : x.cs.drop ((j + 1) * 4) = cs' := by
            have := congrArg (List.drop 4) hcs
            rw [List.drop_drop] at this
            rw [show (j + 1) * 4 = j * 4 + 4 by omega, this]; rfl
          rw [← hcs'] at hs2
          obtain ⟨gg, cc, hA⟩ := hI.agree H0.out
          have hxrow := hI.cl (x, j) (by simp) gg cc hA
          have hxl := HXC.out.1
          have hcell : wr.cell? ⟨x.g, j * 4 + 3, none⟩ = some (.slice ao1 ks1.length cap1) := by
            have h1 := hxrow.cellAt (j * 4 + 3) (by simp only; omega)
            rw [half_at _ _ _ _ _ (by omega)] at h1
            exact h1.trans hc3
          have hnc : ∀ w', Below wr.heap.size wr w' → Kop W2 R0 T0 D0 osl.ownBlock.toList w' gc m oslx (C ++ [(x, j)]) O (R1 ++ R2) := fun w' hb => hI.below H0.out hb
          have HC3 : Hid (x.cs[j * 4 + 3]? = some (.slice ao1 ks1.length cap1)) := hc3
          have HS2 : Hid (SrcRow 46 W2 (x.ks.drop (j + 1)) (x.cs.drop ((j + 1) * 4)) R2) := hs2
          have HRT : Hid (∃ y ∈ (C ++ [(x, j)]).map (fun p : Ent × Nat => p.1) ++ O, y.b = bs ∧ y.g = g0) := hroot
          rcases hs1 with ⟨rfl, rfl⟩ | ⟨b1, cs1, R1', hks1, rfl, hrow1, rfl, hsr1⟩
          · have HN : Hid (Calls Tryd.prog 104 #[.pointer (some ⟨gc, 0, none⟩), .slice ao1 0 cap1] wr fun e w' => e = .returned (.slice none 0 0) ∧ Below wr.heap.size wr w') := list_nil wr gc ao1 cap1
            have HAF : Hid (∀ w', Below wr.heap.size wr w' → (∃ c, w'.cell? ⟨x.g, j * 4 + 3, none⟩ = some (.slice ao1 0 cap1) ∧ c = w'.frozen? ⟨x.g, j * 4 + 3, none⟩ ∧ c = false) ∧ ∀ w6, w6 = w'.setCell ⟨x.g, j * 4 + 3, none⟩ (.slice none 0 0) → Kop W2 R0 T0 D0 osl.ownBlock.toList w6 gc m oslx (C ++ [(x, j + 1)]) O R2) := fun w' hb => by
              have h1 := hnc w' hb
              refine ⟨⟨_, cell_keep hcell hb, rfl, ?_⟩, fun w6 hw6 => ?_⟩
              · exact row_frozen (row_keep hxrow (hb.block _ (row_lt0 hxrow rfl))) _
              · rw [hw6]
                exact h1.store HXC.out hlt HC3.out fun gg cc _ => cpV_nil gg cc ao1 cap1
            clear hI hcs hv1 hc3 hcs' hs2 hxrow hnc hrel hroot hA
            go_wp2_with (go_at_call 104; refine (Calls.mono HN.out ?_); rintro e w5 ⟨rfl, hb⟩; obtain ⟨⟨_, q1, rfl, q2⟩, q3⟩ := HAF.out w5 hb; have HQ3 : Hid _ := q3; clear hb q3)
            go_roundw
            case rel => exact ⟨j + 1, by omega, by go_num, O, oslx, R2, HQ3.out _ rfl, HS2.out, by obtain ⟨y, hy, e⟩ := HRT.out; exact ⟨y, by simpa using hy, e⟩⟩
            case measure => simp [intOf]; omega
          · have hl1 : 0 < ks1.length := by cases ks1 with | nil => exact absurd rfl hks1 | cons _ _ => simp
            have HN := Kop.call (cap := cap1) (ks := ks1) hI H0.out rfl hsr1 hrow1
            replace HN : Hid _ := HN
            have HAF : Hid (∀ w' g' cap' osl', Kop W2 R0 T0 D0 osl.ownBlock.toList w' gc m osl' (C ++ [(x, j)]) (O ++ [⟨b1, ks1.length, cs1, g', cap', ks1, R1'⟩]) R2 → (∃ c, w'.cell? ⟨x.g, j * 4 + 3, none⟩ = some (.slice (some ⟨b1, 0, none⟩) ks1.length cap1) ∧ c = w'.frozen? ⟨x.g, j * 4 + 3, none⟩ ∧ c = false) ∧ ∀ w6, w6 = w'.setCell ⟨x.g, j * 4 + 3, none⟩ (.slice (some ⟨g', 0, none⟩) ks1.length cap') → Kop W2 R0 T0 D0 osl.ownBlock.toList w6 gc m osl' (C ++ [(x, j + 1)]) (O ++ [⟨b1, ks1.length, cs1, g', cap', ks1, R1'⟩]) R2) := fun w' g' cap' osl' h1 => by
              obtain ⟨gg, cc, hA⟩ := h1.agree H0.out
              have hr1 := h1.cl (x, j) (by simp) gg cc hA
              refine ⟨⟨_, ?_, rfl, row_frozen hr1 _⟩, fun w6 hw6 => ?_⟩
              · have h2 := hr1.cellAt (j * 4 + 3) (by simp only; omega)
                rw [half_at _ _ _ _ _ (by omega)] at h2
                exact h2.trans HC3.out
              · rw [hw6]
                refine h1.store HXC.out hlt HC3.out fun gg cc hA' => ?_
                obtain ⟨e1, e2⟩ := hA' ⟨b1, ks1.length, cs1, g', cap', ks1, R1'⟩ (by simp)
                rw [cpV_some _ _ _ _ _ hl1]
                simp only at e1 e2
                rw [e1, e2]
            have hcap1 : cap1 ≤ maxLen ∧ ks1.length ≤ cap1 := by
              rcases hrow1.2 with ⟨h, _⟩ | ⟨_, _, _, h, _, _, h1, h2, _⟩
              · cases h
              · cases h; exact ⟨h2, h1⟩
            clear hI hcs hv1 hc3 hcs' hs2 hxrow hnc hrel hroot hA hsr1 hrow1
            go_wp2_with (go_at_call 104; refine (Calls.mono HN.out ?_); rintro e w5 ⟨g', cap', osl', rfl, hcp⟩; obtain ⟨⟨_, q1, rfl, q2⟩, q3⟩ := HAF.out w5 g' cap' osl' hcp; have HQ3 : Hid _ := q3; clear hcp q3)
            go_roundw
            case rel => exact ⟨j + 1, by omega, by go_num, _, osl', R2, HQ3.out _ rfl, HS2.out, by obtain ⟨y, hy, e⟩ := HRT.out; exact ⟨y, (by simp only [List.mem_append, List.map_append, List.map_cons, List.map_nil, List.mem_singleton] at hy ⊢; rcases hy with (h | h) | h <;> simp [h]), e⟩⟩
            case measure => simp [intOf]; omega
        · obtain rfl : j = x.n := by omega
          have hP : P = [] := by
            rw [List.drop_eq_nil_of_le (by rw [HXS.out.1]; omega)] at hsr
            unfold SrcRow at hsr
            exact hsr.2
          subst hP
          have HQ : Hid (∃ N, QK W2 R0 T0 D0 osl.ownBlock.toList gc m bs g0 wr N ∧ N + 1 = R0.length - C.length) := by
            refine ⟨R0.length - (C ++ [(x, x.n)]).length, ⟨C ++ [(x, x.n)], O, oslx, hI, fun p hp => ?_, hroot, rfl⟩, ?_⟩
            · rcases List.mem_append.1 hp with hp | hp
              · exact HCL.out p hp
              · rw [List.mem_singleton] at hp; subst hp; rfl
            · have := HLEN.out
              rw [List.length_append, List.length_singleton]
              omega
          clear hI hsr hroot hrel
          go_wp2
          go_roundw
          case rel => obtain ⟨N, h1, _⟩ := HQ.out; exact ⟨N, h1⟩
          case measure =>
            obtain ⟨N, h1, h2⟩ := HQ.out
            have h3 := least_le h1
            have h4 := HNL.out
            omega
end Go.Proofs.YtmhmlkdoaojimapDoor

/- What copyOf leaves, told from an earlier world. -/
namespace Go.Proofs.YtmhmlkdoaojimapDoor
open Go.RowKit

theorem KPost.base {T0 : Nat} {D0 : List Nat} {osl : Value} {gc m : Nat} {t : Tm} {F : List Nat} {w u w' : World} {e : Ending} (hb : Below w.heap.size w u) (h : KPost T0 D0 osl gc m t F u e w') : KPost T0 D0 osl gc m t F w e w' := by
  obtain ⟨v', F', T1, D1, osl', h1, h2, h3, h4, h5, h6, h7, h8, h9⟩ := h
  have hs := hb.size
  exact ⟨v', F', T1, D1, osl', h1, h2, fun f hf => ⟨by have := (h3 f hf).1; omega, (h3 f hf).2⟩, h4, (Out.of_below hb).trans h5, h6, h7, fun d hd => (h8 d hd).imp id fun h => h.imp id fun h => by omega, fun z hz => (h9 z hz).imp id fun h => by omega⟩
end Go.Proofs.YtmhmlkdoaojimapDoor
