/- impl.isNone, impl.isPair: the empty list's atom, a pair of a list. -/
import Derived.Test.YtenmhpalpfppmaoGreatDoorIsI
import Derived.Test.YtenmhpalpfppmaoGreatDoorMrg3
import Derived.Deep.DeepCutAuto
namespace Go.Proofs.YtenmhpalpfppmaoGreatDoor
open Go.RowKit

def isNoneB (k : Int) (s : ByteArray) : Bool := decide (k = 2) && decide (s = ⟨#[91, 93]⟩)
set_option maxHeartbeats 1000000 in
theorem i_none (k : Int) (s : ByteArray) (n : Int) (ao : Option Addr) (l cap : Nat) (w : World) :
    Calls Tryz.prog 57 #[.agg #[.int .i64 k, .string s, .int .i64 n, .slice ao l cap]] w fun e w' => e = .returned (.bool (isNoneB k s)) ∧ Below w.heap.size w w' := by
  have hb0 : Hid (Below w.heap.size w (w.alloc (.cells #[.int .i64 k, .string s, .int .i64 n, .slice ao l cap] 29))) := (Below.refl _ _).alloc (Nat.le_refl _) _
  obtain ⟨r, hr⟩ : ∃ r, r = isNoneB k s := ⟨_, rfl⟩
  have HV : Hid (r = isNoneB k s) := hr
  rw [← hr]
  clear hr
  by_cases h1 : k = 2
  · subst h1
    by_cases h2 : s = ⟨#[91, 93]⟩
    · subst h2
      go_enter Tryz.func57, Tryz.ntmps57
      go_wp2
      go_ret
      exact ⟨by rw [HV.out]; rfl, hb0.out⟩
    · have h2' := toL_neq (l := [91, 93]) h2
      have HF : Hid (isNoneB 2 s = false) := by show _ = _; simp [isNoneB, h2]
      clear h2
      go_enter Tryz.func57, Tryz.ntmps57
      go_wp2
      go_ret
      exact ⟨by rw [HV.out, HF.out]; rfl, hb0.out⟩
  · have h1' : (k == 2) = false := beq_eq_false_iff_ne.2 h1
    have HF : Hid (isNoneB k s = false) := by show _ = _; simp [isNoneB, h1]
    clear h1
    go_enter Tryz.func57, Tryz.ntmps57
    go_wp2
    go_ret
    exact ⟨by rw [HV.out, HF.out]; rfl, hb0.out⟩
set_option maxHeartbeats 1000000 in
theorem i_pairS (k : Int) (s : ByteArray) (n : Int) (ao : Option Addr) (l cap : Nat) (w : World) :
    Calls Tryz.prog 42 #[.agg #[.int .i64 k, .string s, .int .i64 n, .slice ao l cap]] w fun e w' => e = .returned (.bool (isSB k s l ⟨#[46]⟩ 2)) ∧ Below w.heap.size w w' := by
  obtain ⟨W, hW⟩ : ∃ W, W = w.alloc (.cells #[.int .i64 k, .string s, .int .i64 n, .slice ao l cap] 29) := ⟨_, rfl⟩
  have hk : W.heap[w.heap.size]? = some (.cells #[.int .i64 k, .string s, .int .i64 n, .slice ao l cap] 29 (0, 0)) := by rw [hW]; exact heap_alloc_new _ _
  have HB : Hid (Below w.heap.size w W) := by rw [hW]; exact (Below.refl _ _).alloc (Nat.le_refl _) _
  have HC : Hid _ := i_isS k s n ao l cap ⟨#[46]⟩ 2 W
  have q0 := blk_cell (i := 0) hk (by simp)
  have q1 := blk_cell (i := 1) hk (by simp)
  have q2 := blk_cell (i := 2) hk (by simp)
  have q3 := blk_cell (i := 3) hk (by simp)
  simp only [List.getElem_toArray, List.getElem_cons_zero, List.getElem_cons_succ] at q0 q1 q2 q3
  clear hk
  go_enter Tryz.func42, Tryz.ntmps42
  go_upto_region 1 with fail
  rw [← hW]
  clear hW
  go_wp2_with (go_at_call 56; refine (Calls.mono HC.out ?_); rintro e w1 ⟨rfl, hb⟩; have HB1 : Hid (Below w.heap.size w w1) := HB.out.trans (hb.mono HB.out.size); clear hb)
  go_ret
  exact ⟨rfl, HB1.out⟩
end Go.Proofs.YtenmhpalpfppmaoGreatDoor
