/- impl.isStruct: a struct of a name, with so many kids. -/
import Derived.Test.YtenmhpalpfppmaoGreatDoorRows
import Derived.Test.YtenmhpalpfppmaoGreatDoorClP
import Derived.Below
import Derived.ProofKit
namespace Go.Proofs.YtenmhpalpfppmaoGreatDoor
open Go.RowKit

theorem toL_neq_i_isS {a b : ByteArray} (h : ¬ a = b) : (a.toList == b.toList) = false := by
  rw [beq_eq_false_iff_ne]
  intro e
  apply h
  rw [ByteArray.toList_eq, ByteArray.toList_eq] at e
  exact ByteArray.ext (Array.toList_inj.1 e)
set_option maxHeartbeats 1000000 in
theorem i_isS (k : Int) (s : ByteArray) (n : Int) (ao : Option Addr) (l cap : Nat) (m : ByteArray) (c : Int) (w : World) :
    Calls Tryz.prog 56 #[.agg #[.int .i64 k, .string s, .int .i64 n, .slice ao l cap], .string m, .int .i64 c] w fun e w' => e = .returned (.bool (isSB k s l m c)) ∧ Below w.heap.size w w' := by
  have hb0 : Hid (Below w.heap.size w (w.alloc (.cells #[.int .i64 k, .string s, .int .i64 n, .slice ao l cap] 29))) := (Below.refl _ _).alloc (Nat.le_refl _) _
  obtain ⟨r, hr⟩ : ∃ r, r = isSB k s l m c := ⟨_, rfl⟩
  have HV : Hid (r = isSB k s l m c) := hr
  rw [← hr]
  clear hr
  by_cases h1 : k = 4
  · subst h1
    by_cases h2 : s = m
    · subst h2
      by_cases h3 : (l : Int) = c
      · subst h3
        have HF : Hid (isSB 4 s l s l = true) := by show _ = _; simp [isSB]
        go_enter Tryz.func56, Tryz.ntmps56
        go_wp2
        go_ret
        exact ⟨by rw [HV.out, HF.out]; first | rfl | simp, hb0.out⟩
      · have h3' : ((l : Int) == c) = false := beq_eq_false_iff_ne.2 h3
        have HF : Hid (isSB 4 s l s c = false) := by show _ = _; simp [isSB, h3]
        clear h3
        go_enter Tryz.func56, Tryz.ntmps56
        go_wp2
        go_ret
        exact ⟨by rw [HV.out, HF.out]; rfl, hb0.out⟩
    · have h2' := toL_neq_i_isS h2
      have HF : Hid (isSB 4 s l m c = false) := by show _ = _; simp [isSB, h2]
      clear h2
      go_enter Tryz.func56, Tryz.ntmps56
      go_wp2
      go_ret
      exact ⟨by rw [HV.out, HF.out]; rfl, hb0.out⟩
  · have h1' : (k == 4) = false := beq_eq_false_iff_ne.2 h1
    have HF : Hid (isSB k s l m c = false) := by show _ = _; simp [isSB, h1]
    clear h1
    go_enter Tryz.func56, Tryz.ntmps56
    go_wp2
    go_ret
    exact ⟨by rw [HV.out, HF.out]; rfl, hb0.out⟩
end Go.Proofs.YtenmhpalpfppmaoGreatDoor
