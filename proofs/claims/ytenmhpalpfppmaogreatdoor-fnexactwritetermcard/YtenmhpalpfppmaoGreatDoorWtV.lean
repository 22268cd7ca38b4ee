/- The specification's WriteTerm. -/
import Derived.Test.YtenmhpalpfppmaoGreatDoorWtU
namespace Go.Proofs.YtenmhpalpfppmaoGreatDoor
open Go.RowKit

/-- what WriteTerm answers -/
def writeR (t : Tm) : List UInt8 := if t.ok then t.wr else []
theorem ok_right {t : Tm} (h : t.ok = true) : t.right 1 = true ∧ t.n ≤ 400 := by
  unfold Tm.ok at h
  rw [Bool.and_eq_true, decide_eq_true_eq] at h
  exact ⟨h.2, h.1⟩

set_option maxHeartbeats 1000000 in
theorem s_writeTerm (t : Tm) (w : World) (v : Value) (hin : TmIn w t v) :
    Calls Tryz.prog 5 #[v] w fun e w' => e = .returned (.string ⟨(writeR t).toArray⟩) ∧ Below w.heap.size w w' := by
  obtain ⟨k, s, n, ao, l, cap, rfl⟩ := tm_shape hin
  obtain ⟨W, hW⟩ : ∃ W, W = w.alloc (.cells #[.int .i64 k, .string s, .int .i64 n, .slice ao l cap] 29) := ⟨_, rfl⟩
  have bW : Below w.heap.size w W := by rw [hW]; exact (Below.refl _ _).alloc (Nat.le_refl _) _
  have HK : Hid (∀ wr, Below W.heap.size W wr → wr.heap[w.heap.size]? = some (.cells #[.int .i64 k, .string s, .int .i64 n, .slice ao l cap] 29 (0, 0))) := fun wr hb => by
    have h0 : W.heap[w.heap.size]? = some (.cells #[.int .i64 k, .string s, .int .i64 n, .slice ao l cap] 29 (0, 0)) := by rw [hW]; exact heap_alloc_new w _
    exact (hb.block _ (Array.getElem?_eq_some_iff.1 h0).1).trans h0
  have HIN : Hid (∀ V, Below W.heap.size W V → TmIn V t (.agg #[.int .i64 k, .string s, .int .i64 n, .slice ao l cap])) := fun V hb => TmIn.keep (bW.trans (hb.mono bW.size)) _ _ hin
  have HBW : Hid (Below w.heap.size w W) := bW
  have HC := specOk t W _ (HIN.out W (Below.refl _ _))
  have HW : Hid (W = w.alloc (.cells #[.int .i64 k, .string s, .int .i64 n, .slice ao l cap] 29)) := hW
  have HS : Hid (WsOk t) := s_write_any t
  have HR : Hid (writeR t = if t.ok then t.wr else []) := rfl
  cases hok : t.ok with
  | true =>
    rw [hok] at HC HR
    obtain ⟨h1, h2⟩ := ok_right hok
    have HWR : Hid (∀ V, Below W.heap.size W V → Calls Tryz.prog 11 #[.agg #[.int .i64 k, .string s, .int .i64 n, .slice ao l cap]] V fun e w' => e = .returned (.string ⟨t.wr.toArray⟩) ∧ Below V.heap.size V w') := fun V hb => HS.out V _ 1 (HIN.out V hb) h1 h2
    replace HC : Hid _ := HC
    clear h1 h2 hok bW hin HS
    go_enter Tryz.func5, Tryz.ntmps5
    go_upto_region 1 with (fail)
    rw [← HW.out]
    clear hW
    obtain ⟨q0, q1, q2, q3, _⟩ := blk4 (HK.out W (Below.refl _ _))
    go_wp2_with (first
      | (go_at_call 10; refine (Calls.mono HC.out ?_); rintro e w1 ⟨rfl, b1⟩; have B1 : Hid (Below W.heap.size W w1) := b1; obtain ⟨p0, p1, p2, p3, _⟩ := blk4 (HK.out w1 b1); clear b1)
      | (go_at_call 11; refine (Calls.mono (HWR.out _ B1.out) ?_); rintro e w2 ⟨rfl, b2⟩; have B2 : Hid (Below W.heap.size W w2) := B1.out.trans (b2.mono B1.out.size); clear b2))
    go_ret
    exact ⟨by rw [HR.out]; rfl, HBW.out.trans (B2.out.mono HBW.out.size)⟩
  | false =>
    rw [hok] at HC HR
    replace HC : Hid _ := HC
    clear hok bW hin HS
    go_enter Tryz.func5, Tryz.ntmps5
    go_upto_region 1 with (fail)
    rw [← HW.out]
    clear hW
    obtain ⟨q0, q1, q2, q3, _⟩ := blk4 (HK.out W (Below.refl _ _))
    go_wp2_with (go_at_call 10; refine (Calls.mono HC.out ?_); rintro e w1 ⟨rfl, b1⟩; have B1 : Hid (Below W.heap.size W w1) := b1; clear b1)
    go_ret
    exact ⟨by rw [HR.out]; rfl, HBW.out.trans (B1.out.mono HBW.out.size)⟩
end Go.Proofs.YtenmhpalpfppmaoGreatDoor
