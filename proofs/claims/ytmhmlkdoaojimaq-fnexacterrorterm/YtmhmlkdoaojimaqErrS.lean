/- spec.ErrorTerm. -/
import Derived.Test.YtmhmlkdoaojimaqErrP
import Derived.Test.YtmhmlkdoaojimaqNameS
import Derived.Test.YtmhmlkdoaojimaqTwoS
import Derived.Test.YtmhmlkdoaojimaqOwnTwo
namespace Go.Proofs.Ytmhmlkdoaojimaq
open Go.RowKit

theorem below_hq {w w' : World} (hb : Below w.heap.size w w') {g : Nat} {x : Obj} (h : w.heap[g]? = some x) : w'.heap[g]? = some x := (hb.block g (Array.getElem?_eq_some_iff.1 h).1).trans h
set_option maxHeartbeats 1000000 in
theorem s_atom (s : ByteArray) (w : World) :
    Calls Try.prog 21 #[.string s] w fun e w' => e = .returned (.agg #[.int .i64 2, .string s, .int .i64 0, .slice none 0 0]) ∧ Below w.heap.size w w' := by
  obtain ⟨W, hW⟩ : ∃ W, W = w.alloc (.cells #[.int .i64 0, .string ⟨#[]⟩, .int .i64 0, .slice none 0 0] 24) := ⟨_, rfl⟩
  have hh : W.heap[w.heap.size]? = some (.cells #[.int .i64 0, .string ⟨#[]⟩, .int .i64 0, .slice none 0 0] 24 (0, 0)) := by rw [hW]; exact heap_alloc_new _ _
  have HB : Hid (Below w.heap.size w W) := by show Below _ _ _; rw [hW]; exact (Below.refl _ _).alloc (Nat.le_refl _) _
  have HH : Hid _ := hh
  go_enter Try.func21, Try.ntmps21
  go_upto_region 1 with fail
  rw [← hW]
  clear hW
  obtain ⟨c0, c1, c2, c3, f0, f1, f2, f3⟩ := blk4 hh
  clear hh
  go_wp2
  refine bodyPost_ret_by (results_cell_row rfl _ _ w.heap.size 24 _ (0, 0) _ rfl (blk4_set HH.out) Try.underlying24 rfl (by kernel_rfl)) rfl ?_
  exact ⟨rfl, blk4_below HB.out (Nat.le_refl _)⟩

set_option maxHeartbeats 4000000 in
set_option maxRecDepth 20000 in
theorem s_errorTerm (c : Int) (hc : -9223372036854775808 ≤ c ∧ c ≤ 9223372036854775807) (p : ByteArray) (hp : p.size ≤ 1048576) (w : World) :
    Calls Try.prog 5 #[.int .i64 c, .string p] w fun e w' => ∃ b, e = .returned (.agg #[.int .i64 4, .string cError, .int .i64 0, .slice (some ⟨b, 0, none⟩) 2 2]) ∧ w.heap.size ≤ b ∧ w'.heap[b]? = some (.cells #[.int .i64 2, .string (errName c), .int .i64 0, .slice none 0 0, .int .i64 2, .string (errPred p), .int .i64 0, .slice none 0 0] 24 (0, 0)) ∧ Below w.heap.size w w' := by
  have HN : Hid (∀ u, Calls Try.prog 19 #[.string p] u fun e w' => e = .returned (.bool (nameOk p)) ∧ w' = u) := fun u => specName p (by unfold maxLen; omega) u
  obtain ⟨W, hW⟩ : ∃ W, W = w.alloc (.cells #[.int .i64 0, .string ⟨#[]⟩, .int .i64 0, .slice none 0 0] 24) := ⟨_, rfl⟩
  have HQ : Hid (W.heap[w.heap.size]? = some (.cells #[.int .i64 0, .string ⟨#[]⟩, .int .i64 0, .slice none 0 0] 24 (0, 0))) := by show _ = _; rw [hW]; exact heap_alloc_new _ _
  have HB : Hid (Below w.heap.size w W) := by show Below _ _ _; rw [hW]; exact (Below.refl _ _).alloc (Nat.le_refl _) _
  obtain ⟨s, hs⟩ : ∃ s, errName c = s := ⟨_, rfl⟩
  obtain ⟨q, hq⟩ : ∃ q, errPred p = q := ⟨_, rfl⟩
  rw [hs, hq]
  have HT : Hid (∀ u v0 v1, v0 = .agg #[.int .i64 2, .string s, .int .i64 0, .slice none 0 0] → v1 = .agg #[.int .i64 2, .string q, .int .i64 0, .slice none 0 0] → Calls Try.prog 20 #[.string cError, v0, v1] u fun e w' => ∃ b, e = .returned (.agg #[.int .i64 4, .string cError, .int .i64 0, .slice (some ⟨b, 0, none⟩) 2 2]) ∧ u.heap.size ≤ b ∧ w'.heap[b]? = some (.cells #[.int .i64 2, .string s, .int .i64 0, .slice none 0 0, .int .i64 2, .string q, .int .i64 0, .slice none 0 0] 24 (0, 0)) ∧ Below u.heap.size u w') := fun u v0 v1 h0 h1 => by subst h0 h1; exact s_two cError u _ _ _ _ _ _ _ _ _ _ _ _
  clear hp
  rw [show cError = ⟨#[101, 114, 114, 111, 114]⟩ from rfl] at HT
  have h5 : (c = 1 ∧ s = cInst) ∨ (c = 2 ∧ s = cType) ∨ (c = 3 ∧ s = cRange) ∨ (c = 4 ∧ s = cZero) ∨ (c ≠ 1 ∧ c ≠ 2 ∧ c ≠ 3 ∧ c ≠ 4 ∧ s = cUnknown) := by
    rw [← hs]
    unfold errName
    by_cases h1 : c = 1
    · simp [h1]
    by_cases h2 : c = 2
    · simp [h2]
    by_cases h3 : c = 3
    · simp [h3]
    by_cases h4 : c = 4
    · simp [h4]
    simp [h1, h2, h3, h4]
  clear hs
  have hn : (nameOk p = true ∧ q = p) ∨ (nameOk p = false ∧ q = cNone) := by
    rw [← hq]
    unfold errPred
    cases nameOk p <;> simp
  clear hq
  rcases h5 with ⟨rfl, rfl⟩ | ⟨rfl, rfl⟩ | ⟨rfl, rfl⟩ | ⟨rfl, rfl⟩ | ⟨g1, g2, g3, g4, rfl⟩ <;> rcases hn with ⟨hn, rfl⟩ | ⟨hn, rfl⟩
  all_goals
    go_enter Try.func5, Try.ntmps5
    go_upto_region 1 with fail
    rw [← hW]
    clear hW
    go_wp2_with (first | (go_at_call 19; refine (Calls.mono (HN.out _) ?_); rintro e w1 ⟨rfl, rfl⟩; rw [hn]) | (go_at_call 21; refine (Calls.mono (s_atom _ _) ?_); rintro e w1 ⟨rfl, hb⟩; replace HQ : Hid (w1.heap[w.heap.size]? = _) := below_hq hb HQ.out; replace HB : Hid (Below w.heap.size w w1) := HB.out.trans (hb.mono HB.out.size); clear hb) | (go_at_call 20; refine (Calls.mono (HT.out _ _ _ rfl rfl) ?_); rintro e w1 ⟨b, rfl, hbs, ht, hb⟩; have HR : Hid (w.heap.size < b ∧ w1.heap[b]? = _) := ⟨by have := (Array.getElem?_eq_some_iff.1 HQ.out).1; omega, ht⟩; replace HQ : Hid (w1.heap[w.heap.size]? = _) := below_hq hb HQ.out; replace HB : Hid (Below w.heap.size w w1) := HB.out.trans (hb.mono HB.out.size); clear hbs ht hb; obtain ⟨z0, z1, z2, z3, g0, g1, g2, g3⟩ := blk4 HQ.out))
    refine bodyPost_ret_by (results_cell_row rfl _ _ w.heap.size 24 _ (0, 0) _ rfl (blk4_set HQ.out) Try.underlying24 rfl (by kernel_rfl)) rfl ?_
    have hr := HR.out
    exact ⟨b, rfl, by omega, (blk4_other (by omega)).trans hr.2, blk4_below HB.out (Nat.le_refl _)⟩
end Go.Proofs.Ytmhmlkdoaojimaq
