/- (*copier).copyOf of a right term: a copy in memory of its own, and nothing is turned. -/
import Derived.Test.YtmhmlkdoaojimapDoorMrg16
import Derived.Test.YtmhmlkdoaojimapDoorMrg17
import Derived.Test.YtmhmlkdoaojimapDoorMrg1
import Derived.Test.YtmhmlkdoaojimapDoorMrg2
import Derived.Test.YtmhmlkdoaojimapDoorClP
namespace Go.Proofs.YtmhmlkdoaojimapDoor
open Go.RowKit

set_option maxHeartbeats 4000000 in
set_option maxRecDepth 20000 in
theorem copy_sp (t : Tm) (v : Value) (w : World) (gc : Nat) (hin : TmIn w t v) (hwt : t.wt ≤ 1048576) (hsh : t.shp 0) (hr : (match t with | .mk _ _ _ ks => ks.length = 0) ∨ t.ok = true) :
    Calls Tryd.prog 88 #[.pointer (some ⟨gc, 0, none⟩), v] w fun e w' => ∃ v' F', e = .returned v' ∧ Own 46 w' t v' F' ∧ (∀ f ∈ F', w.heap.size ≤ f) ∧ F'.Nodup ∧ Below w.heap.size w w' := by
  obtain ⟨k, s, n, ks⟩ := t
  have hr' : ks.length = 0 ∨ (Tm.mk k s n ks).ok = true := hr
  clear hr
  have hin' := hin
  unfold TmIn at hin
  obtain ⟨ao, cap, rfl, hk, hn, hs, hlen, hcap, _⟩ := hin
  obtain ⟨W, hW⟩ : ∃ W, W = (w.alloc (.cells #[.int .i64 k, .string s, .int .i64 n, .slice ao ks.length cap] 46)).alloc (.cells #[.int .i64 0, .string ⟨#[]⟩, .int .i64 0, .slice none 0 0] 46) := ⟨_, rfl⟩
  have bW : Below w.heap.size w W := by rw [hW]; exact ((Below.refl _ _).alloc (Nat.le_refl _) _).alloc (by simp) _
  have k1 : W.heap[w.heap.size]? = some (.cells #[.int .i64 k, .string s, .int .i64 n, .slice ao ks.length cap] 46 (0, 0)) := by rw [hW]; exact (alloc_old _ _ (by simp)).trans (alloc_at _ _ rfl)
  have k2 : W.heap[w.heap.size + 1]? = some (.cells #[.int .i64 0, .string ⟨#[]⟩, .int .i64 0, .slice none 0 0] 46 (0, 0)) := by rw [hW]; exact alloc_at _ _ (by simp)
  have lW : W.heap.size = w.heap.size + 2 := by rw [hW]; simp
  have HK : Hid (∀ w1, Below W.heap.size W w1 → w1.heap[w.heap.size]? = some (.cells #[.int .i64 k, .string s, .int .i64 n, .slice ao ks.length cap] 46 (0, 0)) ∧ w1.heap[w.heap.size + 1]? = some (.cells #[.int .i64 0, .string ⟨#[]⟩, .int .i64 0, .slice none 0 0] 46 (0, 0))) := fun w1 hb => ⟨(hb.block _ (by omega)).trans k1, (hb.block _ (by omega)).trans k2⟩
  have HBW : Hid (Below w.heap.size w W) := bW
  unfold maxLen at hcap
  have HOK := implOk _ W _ (TmIn.keep bW _ _ hin')
  have HSR : Hid (∀ w1, Below W.heap.size W w1 → Calls Tryd.prog 55 #[.agg #[.int .i64 k, .string s, .int .i64 n, .slice ao ks.length cap], .int .i64 0] w1 fun e w' => ∃ v' F, e = .returned v' ∧ Own 46 w' (.mk k s n ks) v' F ∧ (∀ f ∈ F, w1.heap.size ≤ f) ∧ F.Nodup ∧ Below w1.heap.size w1 w') := fun w1 hb => by
    have := shifted_right 0 (.mk k s n ks) w1 _ (TmIn.keep (bW.trans (hb.mono bW.size)) _ _ hin') (by omega) hsh
    rwa [shift_zero] at this
  have HE : Hid (∀ w1 w2 v' F', Below W.heap.size W w1 → Own 46 w2 (.mk k s n ks) v' F' → (∀ f ∈ F', w1.heap.size ≤ f) → Below w1.heap.size w1 w2 → (∀ f ∈ F', w.heap.size ≤ f) ∧ ∀ d0 d1 d2 d3 w3, w3 = ((((w2.setCell ⟨w.heap.size + 1, 0, none⟩ d0).setCell ⟨w.heap.size + 1, 1, none⟩ d1).setCell ⟨w.heap.size + 1, 2, none⟩ d2).setCell ⟨w.heap.size + 1, 3, none⟩ d3) →
      Own 46 w3 (.mk k s n ks) v' F' ∧ Below w.heap.size w w3) := by
    intro w1 w2 v' F' hb1 ho hf hb2
    have hs1 := hb1.size
    refine ⟨fun f hf' => by have := hf f hf'; omega, fun d0 d1 d2 d3 w3 hw3 => ⟨Own.keep _ _ _ ho fun f hf' => ?_, ?_⟩⟩
    · have := hf f hf'
      rw [hw3, blk4_other (by omega)]
    · rw [hw3]
      exact blk4_below (bW.trans ((hb1.trans (hb2.mono hb1.size)).mono bW.size)) (by omega)
  clear hsh hin' bW k1 k2 hwt
  by_cases hk0 : ks.length = 0
  · rw [hk0] at hW HK HSR ⊢
    have HS0 := HSR.out W (Below.refl _ _)
    rw [hW] at HS0
    replace HS0 : Hid _ := HS0
    clear HOK HSR hlen hr'
    go_enter Tryd.func88, Tryd.ntmps88
    go_wp2_with (go_at_call 55; refine (Calls.mono HS0.out ?_); rintro e w2 ⟨v', F2, rfl, ho, hfr, hnd, hb⟩; rw [← hW] at hfr hb; obtain ⟨k', s', n', ao', len', cap', rfl⟩ := own_shape ho; have hz := (HK.out w2 hb).2; obtain ⟨y0, y1, y2, y3, z0, z1, z2, z3⟩ := blk4 hz; have HX : Hid _ := HE.out W w2 _ F2 (Below.refl _ _) ho hfr hb; have HZ : Hid _ := hz; have HND : Hid F2.Nodup := hnd; clear ho hfr hb hz hnd)
    refine bodyPost_ret_by (results_cell_row rfl _ _ (w.heap.size + 1) 46 _ (0, 0) _ rfl (blk4_set HZ.out) Tryd.underlying46 rfl (by kernel_rfl)) rfl ?_
    exact ⟨_, F2, rfl, (HX.out.2 _ _ _ _ _ rfl).1, HX.out.1, HND.out, (HX.out.2 _ _ _ _ _ rfl).2⟩
  · rw [hr'.resolve_left hk0, hW] at HOK
    replace HOK : Hid _ := HOK
    have hk1 : ((ks.length : Int) == 0) = false := by rw [nat0]; exact decide_eq_false hk0
    clear hk0 hr'
    go_enter Tryd.func88, Tryd.ntmps88
    go_wp2_with (first | (go_at_call 50; refine (Calls.mono HOK.out ?_); rintro e w1 ⟨rfl, hb⟩; rw [← hW] at hb; obtain ⟨x0, x1, x2, x3, _⟩ := blk4 (HK.out w1 hb).1; have HS1 : Hid _ := HSR.out w1 hb; have HB1 : Hid (Below W.heap.size W w1) := hb; clear hb) | (go_at_call 55; refine (Calls.mono HS1.out ?_); rintro e w2 ⟨v', F2, rfl, ho, hfr, hnd, hb⟩; obtain ⟨k', s', n', ao', len', cap', rfl⟩ := own_shape ho; have hz := (HK.out w2 (HB1.out.trans (hb.mono HB1.out.size))).2; obtain ⟨y0, y1, y2, y3, z0, z1, z2, z3⟩ := blk4 hz; have HX : Hid _ := HE.out w1 w2 _ F2 HB1.out ho hfr hb; have HZ : Hid _ := hz; have HND : Hid F2.Nodup := hnd; clear ho hfr hb hz hnd))
    refine bodyPost_ret_by (results_cell_row rfl _ _ (w.heap.size + 1) 46 _ (0, 0) _ rfl (blk4_set HZ.out) Tryd.underlying46 rfl (by kernel_rfl)) rfl ?_
    exact ⟨_, F2, rfl, (HX.out.2 _ _ _ _ _ rfl).1, HX.out.1, HND.out, (HX.out.2 _ _ _ _ _ rfl).2⟩
theorem copy_ok (t : Tm) (v : Value) (w : World) (gc : Nat) (hin : TmIn w t v) (hok : t.ok = true) :
    Calls Tryd.prog 88 #[.pointer (some ⟨gc, 0, none⟩), v] w fun e w' => ∃ v' F', e = .returned v' ∧ Own 46 w' t v' F' ∧ (∀ f ∈ F', w.heap.size ≤ f) ∧ F'.Nodup ∧ Below w.heap.size w w' :=
  copy_sp t v w gc hin (by have := ok_wt hok; omega) (right_shp 0 (by omega) _ 1 (okk_right hok)) (Or.inr hok)
theorem copy_leaf (k : Int) (s : ByteArray) (n : Int) (ks : List Tm) (v : Value) (w : World) (gc : Nat) (hin : TmIn w (.mk k s n ks) v) (hwt : (Tm.mk k s n ks).wt ≤ 1048576) (h : ks.length = 0) :
    Calls Tryd.prog 88 #[.pointer (some ⟨gc, 0, none⟩), v] w fun e w' => ∃ v' F', e = .returned v' ∧ Own 46 w' (.mk k s n ks) v' F' ∧ (∀ f ∈ F', w.heap.size ≤ f) ∧ F'.Nodup ∧ Below w.heap.size w w' := by
  refine copy_sp _ v w gc hin hwt ?_ (Or.inl h)
  obtain rfl : ks = [] := List.eq_nil_of_length_eq_zero h
  unfold TmIn at hin
  obtain ⟨_, _, _, _, h2, _⟩ := hin
  rw [shp_mk]
  exact ⟨fun _ => by omega, Or.inl rfl, trivial⟩
end Go.Proofs.YtmhmlkdoaojimapDoor
