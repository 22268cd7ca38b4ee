/- impl.faultName, impl.ErrorTerm. -/
import Derived.Test.YtmhmlkdoaojimaqErrP
import Derived.Test.YtmhmlkdoaojimaqNameI
import Derived.Test.YtmhmlkdoaojimaqMkI
import Derived.Deep.DeepCutAuto
namespace Go.Proofs.Ytmhmlkdoaojimaq
open Go.RowKit

theorem below_alloc {w w2 : World} {o : Obj} (hb : Below (w.alloc o).heap.size (w.alloc o) w2) : Below w.heap.size w w2 := ((Below.refl _ _).alloc (Nat.le_refl _) _).trans (hb.mono (by simp))
theorem err5 {c : Int} {s : ByteArray} (hs : errName c = s) : (c = 1 ∧ s = cInst) ∨ (c = 2 ∧ s = cType) ∨ (c = 3 ∧ s = cRange) ∨ (c = 4 ∧ s = cZero) ∨ (c ≠ 1 ∧ c ≠ 2 ∧ c ≠ 3 ∧ c ≠ 4 ∧ s = cUnknown) := by
  rw [← hs]
  unfold errName
  by_cases h1 : c = 1
  · simp [h1]
  by_cases h2 : c = 2
  · simp [h2]
  by_cases h3 : c = 3
  · simp [h3]
  by_cases h4 : c = 4
  · simp [h4]
  simp [h1, h2, h3, h4]

set_option maxHeartbeats 2000000 in
theorem i_faultName (c : Int) (hc : -9223372036854775808 ≤ c ∧ c ≤ 9223372036854775807) (w : World) :
    Calls Try.prog 25 #[.int .i64 c] w fun e w' => e = .returned (.string (errName c)) ∧ w' = w := by
  obtain ⟨s, hs⟩ : ∃ s, errName c = s := ⟨_, rfl⟩
  rw [hs]
  rcases err5 hs with ⟨rfl, rfl⟩ | ⟨rfl, rfl⟩ | ⟨rfl, rfl⟩ | ⟨rfl, rfl⟩ | ⟨g1, g2, g3, g4, rfl⟩
  all_goals
    clear hs
    go_enter Try.func25, Try.ntmps25
    go_wp2
    go_ret
    exact ⟨rfl, rfl⟩

set_option maxHeartbeats 4000000 in
set_option maxRecDepth 20000 in
theorem i_errorTerm (c : Int) (hc : -9223372036854775808 ≤ c ∧ c ≤ 9223372036854775807) (p : ByteArray) (hp : p.size ≤ 1048576) (w : World) :
    Calls Try.prog 6 #[.int .i64 c, .string p] w fun e w' => ∃ b, e = .returned (.agg #[.int .i64 4, .string cError, .int .i64 0, .slice (some ⟨b, 0, none⟩) 2 2]) ∧ w.heap.size ≤ b ∧ w'.heap[b]? = some (.cells #[.int .i64 2, .string (errName c), .int .i64 0, .slice none 0 0, .int .i64 2, .string (errPred p), .int .i64 0, .slice none 0 0] 24 (0, 0)) ∧ Below w.heap.size w w' := by
  have HN : Hid (∀ u, Calls Try.prog 22 #[.string p] u fun e w' => e = .returned (.bool (nameOk p)) ∧ w' = u) := fun u => implName p (by unfold maxLen; omega) u
  have HF : Hid (∀ u, Calls Try.prog 25 #[.int .i64 c] u fun e w' => e = .returned (.string (errName c)) ∧ w' = u) := fun u => i_faultName c hc u
  have HA : Hid (∀ x u, x.size ≤ 1048576 → Calls Try.prog 24 #[.string x] u fun e w' => e = .returned (.agg #[.int .i64 2, .string x, .int .i64 0, .slice none 0 0]) ∧ Below u.heap.size u w') := fun x u hx => m_atomOf x u hx
  have HSO : Hid (∀ u ao, Calls Try.prog 23 #[.string ⟨#[101, 114, 114, 111, 114]⟩, .slice ao 2 2] u fun e w' => e = .returned (.agg #[.int .i64 4, .string cError, .int .i64 0, .slice ao 2 2]) ∧ Below u.heap.size u w') := fun u ao => m_structOf cError ao 2 2 u (by decide)
  have HS1 : Hid ((errName c).size ≤ 1048576) := by have := errName_size c; show _ ≤ _; omega
  have HS2 : Hid ((errPred p).size ≤ 1048576) := errPred_size p hp
  obtain ⟨W, hW⟩ : ∃ W, W = w.alloc (.cells #[.int .i64 0, .string ⟨#[]⟩, .int .i64 0, .slice none 0 0] 24) := ⟨_, rfl⟩
  have HQ : Hid (W.heap[w.heap.size]? = some (.cells #[.int .i64 0, .string ⟨#[]⟩, .int .i64 0, .slice none 0 0] 24 (0, 0))) := by show _ = _; rw [hW]; exact heap_alloc_new _ _
  have HB : Hid (Below w.heap.size w W) := by show Below _ _ _; rw [hW]; exact (Below.refl _ _).alloc (Nat.le_refl _) _
  obtain ⟨s, hs⟩ : ∃ s, errName c = s := ⟨_, rfl⟩
  obtain ⟨q, hq⟩ : ∃ q, errPred p = q := ⟨_, rfl⟩
  rw [hs] at HF HS1 ⊢
  rw [hq] at HS2 ⊢
  clear hp hc hs
  have hn : (nameOk p = true ∧ q = p) ∨ (nameOk p = false ∧ q = cNone) := by
    rw [← hq]
    unfold errPred
    cases nameOk p <;> simp
  clear hq
  rcases hn with ⟨hn, rfl⟩ | ⟨hn, hq⟩
  all_goals
    go_enter Try.func6, Try.ntmps6
    go_upto_region 1 with fail
    rw [← hW]
    clear hW
    try rw [show cNone = ⟨#[110, 111, 110, 101]⟩ from rfl] at hq
    try subst hq
    go_wp2_with (first | (go_at_call 22; refine (Calls.mono (HN.out _) ?_); rintro e w1 ⟨rfl, rfl⟩; rw [hn]) | (go_at_call 25; refine (Calls.mono (HF.out _) ?_); rintro e w1 ⟨rfl, rfl⟩) | (go_at_call 24; refine (Calls.mono (HA.out _ _ (by first | exact HS1.out | exact HS2.out)) ?_); rintro e w1 ⟨rfl, hb⟩; replace HQ : Hid (w1.heap[w.heap.size]? = _) := below_hp hb HQ.out; replace HB : Hid (Below w.heap.size w w1) := HB.out.trans (hb.mono HB.out.size); clear hb) | (go_at_call 23; refine (Calls.mono (HSO.out _ _) ?_); rintro e w2 ⟨rfl, hb⟩; have HT : Hid (w2.heap[w1.heap.size]? = _) := below_hp hb (heap_alloc_new _ _); have HL : Hid (w.heap.size < w1.heap.size) := (Array.getElem?_eq_some_iff.1 HQ.out).1; have bA := below_alloc hb; replace HQ : Hid (w2.heap[w.heap.size]? = _) := below_hp bA HQ.out; replace HB : Hid (Below w.heap.size w w2) := HB.out.trans (bA.mono HB.out.size); clear hb bA; obtain ⟨z0, z1, z2, z3, g0, g1, g2, g3⟩ := blk4 HQ.out))
    refine bodyPost_ret_by (results_cell_row rfl _ _ w.heap.size 24 _ (0, 0) _ rfl (blk4_set HQ.out) Try.underlying24 rfl (by kernel_rfl)) rfl ?_
    have hl := HL.out
    exact ⟨_, rfl, by omega, (blk4_other (by omega)).trans HT.out, blk4_below HB.out (Nat.le_refl _)⟩
end Go.Proofs.Ytmhmlkdoaojimaq
