/- impl.mayHaveClauses. -/
import Derived.Test.YtmhmlkdoaojimapDoorCtlI
import Derived.Test.YtmhmlkdoaojimapDoorMrg3
namespace Go.Proofs.YtmhmlkdoaojimapDoor
open Go.RowKit

set_option maxHeartbeats 1000000 in
theorem i_may (p : ByteArray) (w : World) :
    Calls Tryd.prog 33 #[.string p] w fun e w' => e = .returned (.bool (mayB p)) ∧ Below w.heap.size w w' := by
  have HC : Hid _ := i_control p w
  obtain ⟨r, hr⟩ : ∃ r, r = mayB p := ⟨_, rfl⟩
  have HV : Hid (r = mayB p) := hr
  rw [← hr]
  clear hr
  by_cases h : p = ⟨#[]⟩
  · subst h
    go_enter Tryd.func33, Tryd.ntmps33
    go_wp2
    go_ret
    exact ⟨by rw [HV.out]; rfl, Below.refl _ _⟩
  · have h1 : ¬ p.toList = [] := fun e => h (by rw [ByteArray.toList_eq] at e; exact ByteArray.ext (Array.toList_inj.1 e))
    have HE : Hid (p.toList.isEmpty = false) := by show _ = _; cases hp : p.toList with | nil => exact absurd hp h1 | cons _ _ => rfl
    have HX : Hid (mayB p = !ctlB p) := by show _ = _; unfold mayB; rw [decide_eq_true h, Bool.true_and]
    clear h
    go_enter Tryd.func33, Tryd.ntmps33
    go_wp2_with (go_at_call 61; refine (Calls.mono HC.out ?_); rintro e w1 ⟨rfl, hb⟩; have HB : Hid _ := hb; clear hb)
    go_ret
    exact ⟨by rw [HV.out, HX.out]; show Ending.returned (.bool (!p.toList.isEmpty && !ctlB p)) = _; rw [HE.out]; rfl, HB.out⟩
end Go.Proofs.YtmhmlkdoaojimapDoor
