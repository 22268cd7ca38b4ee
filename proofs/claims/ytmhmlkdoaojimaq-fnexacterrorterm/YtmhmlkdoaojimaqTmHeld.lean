/- laws.heldTerm: what was marked is found as it was marked. -/
import Derived.Test.YtmhmlkdoaojimaqTmHeldS
import Derived.Test.YtmhmlkdoaojimaqTmMark
namespace Go.Proofs.Ytmhmlkdoaojimaq
open Go.RowKit

set_option maxRecDepth 20000 in
theorem held_term (t : Tm) (w : World) (v : Value) (c : Nat) (h : TmIn w (t.markK c) v) (hc : 0 < c) (hb : c + 3 * ns t.kids ≤ 2305843009213693952) :
    Calls Try.prog 9 #[v, .int .i64 (c : Int)] w fun e w' => e = .returned (.int .i64 ((c + 3 * ns t.kids : Nat) : Int)) ∧ Below w.heap.size w w' := by
  obtain ⟨k, s, n, ks⟩ := t
  unfold Tm.markK TmIn at h
  obtain ⟨ao, cap, rfl, _, _, _, hl, hm, hr⟩ := h
  rw [markL_len] at *
  obtain ⟨W, hW⟩ : ∃ W, W = w.alloc (.cells #[.int .i64 k, .string s, .int .i64 n, .slice ao ks.length cap] 24) := ⟨_, rfl⟩
  have hbW : Below w.heap.size w W := by rw [hW]; exact (Below.refl _ _).alloc (Nat.le_refl _) _
  have HC := held_all ks W ao cap c hc hb hl hm (fun h0 => by
    obtain ⟨b1, off1, e1, hr2⟩ := hr (by intro e; apply h0; rw [← List.length_eq_zero_iff, ← markL_len ks c, e]; rfl)
    exact ⟨b1, off1, e1, TmsIn.keep hbW _ _ _ hr2⟩)
  rw [hW] at HC
  replace HC : Hid _ := HC
  have HBW : Hid _ := hbW
  change c + 3 * ns ks ≤ 2305843009213693952 at hb
  show Calls Try.prog 9 _ _ fun e w' => e = .returned (.int .i64 ((c + 3 * ns ks : Nat) : Int)) ∧ Below w.heap.size w w'
  have hnn : ¬ ((c + 3 * ns ks : Nat) : Int) < 0 := by omega
  generalize c + 3 * ns ks = nx at *
  clear hr hbW
  go_enter Try.func9, Try.ntmps9
  go_wp2_with (go_at_call 28; refine (Calls.mono HC.out ?_); rintro e w1 ⟨rfl, hb⟩; rw [← hW] at hb; have HU : Hid (Below w.heap.size w w1) := HBW.out.trans (hb.mono HBW.out.size); clear hb)
  go_ret
  exact ⟨rfl, HU.out⟩
end Go.Proofs.Ytmhmlkdoaojimaq
