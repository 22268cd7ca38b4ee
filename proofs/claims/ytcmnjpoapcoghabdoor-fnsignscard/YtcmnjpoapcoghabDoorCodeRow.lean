/- A code that comes in as a slice of bytes: what is known of it, and 'big'. -/
import Derived.Test.YtcmnjpoapcoghabDoorCurPlain
import Derived.Test.YtcmnjpoapcoghabDoorRows
import Derived.Carry
import Derived.ChangeSlices
import Derived.ProofKit
import Derived.OpenShut
namespace Go.Proofs.YtcmnjpoapcoghabDoor
open Go.ChangeShapes Go.WideShapes Go.ChangeAt Go.RowKit

theorem cellsU8 : Tryd.prog.cellsOf 5 = 1 := by kernel_rfl
theorem laidOutK : laidOutB Tryd.prog = true := by kernel_rfl
theorem readsCode : Tryd.prog.readableRec 22 = true := by kernel_rfl
theorem rowCode : 22 < Tryd.prog.types.size := of_decide_eq_true (by kernel_rfl)

theorem big_no (ao : Option Addr) (n cap : Nat) (h : n ≤ 1048576) (w : World) :
    Calls Tryd.prog 4 #[.slice ao n cap] w fun e w' => e = .returned (.bool false) ∧ w' = w := by
  go_enter Tryd.func4, Tryd.ntmps4
  go_wp2
  go_ret
  exact ⟨by simp; omega, rfl⟩
theorem big_yes (ao : Option Addr) (n cap : Nat) (h : 1048576 < n) (hm : n ≤ maxLen) (w : World) :
    Calls Tryd.prog 4 #[.slice ao n cap] w fun e w' => e = .returned (.bool true) ∧ w' = w := by
  unfold maxLen at hm
  go_enter Tryd.func4, Tryd.ntmps4
  go_wp2
  go_ret
  exact ⟨by simp; omega, rfl⟩

theorem cell_lt {w : World} {a : Addr} {x : Value} (h : w.cell? a = some x) : a.block < w.heap.size ∧ a.spot = none := by
  unfold World.cell? at h
  split at h
  · rename_i c _ _ hb
    refine ⟨(Array.getElem?_eq_some_iff.1 hb).1, ?_⟩
    by_cases hs : a.spot.isSome = true
    · rw [if_pos hs] at h; cases h
    · simpa using hs
  · cases h

theorem code_split {H : Type} {enc : TypeId × Value → H} {W : World} {base : Nat} {v : Value} {d : DataW H} {ps : List MemPlace} (hok : Value.okWide Tryd.prog W .any base 22 v)
    (h : DataW.Trod enc Tryd.prog W 0 (fun _ => true) true 22 v d ps) : ∃ ao n cap, v = .slice ao n cap ∧ n ≤ maxLen ∧ (n ≤ 1048576 → CodeIn W.heap.size W v n) := by
  obtain ⟨a0, len, cap, rfl⟩ := okWide_slice Tryd.underlying22 hok
  obtain ⟨fuel, hf⟩ := h
  rcases open_ints Tryd.underlying22 Tryd.underlying5 cellsU8 hf with ⟨hcs, _⟩ | ⟨a, len', cap', zs, hcs, _, hl, hm, hz, _, hcell, hwz⟩
  · have hcs' : [Value.slice a0 len cap] = [.slice none 0 0] := hcs
    obtain ⟨rfl, rfl, rfl⟩ : a0 = none ∧ len = 0 ∧ cap = 0 := by simpa using hcs'
    exact ⟨none, 0, 0, rfl, by decide, fun _ => ⟨none, 0, rfl, by omega, fun h => by omega⟩⟩
  · have hcs' : [Value.slice a0 len cap] = [.slice (some a) len' cap'] := hcs
    obtain ⟨rfl, rfl, rfl⟩ : a0 = some a ∧ len = len' ∧ cap = cap' := by simpa using hcs'
    refine ⟨some a, len, cap, rfl, by omega, fun hn => ⟨some a, cap, rfl, hn, fun h0 => ?_⟩⟩
    have hzl : zs.length = cap := by simpa using hz
    have h1 := hcell 0 (by omega)
    obtain ⟨hlt, hsp⟩ := cell_lt h1
    obtain ⟨b, off, sp⟩ := a
    cases (show sp = none from hsp)
    refine ⟨b, off, fun j => UInt8.ofNat (zs.getD j 0).toNat, rfl, hlt, hlt, fun j hj => ?_⟩
    have hc := hcell j (by omega)
    rw [Addr.add_lit] at hc
    rw [hc]
    have hjl : j < zs.length := by omega
    have e : zs.getD j 0 = zs[j] := by simp [List.getD, hjl]
    have hw := hwz (zs.getD j 0) (by rw [e]; exact List.getElem_mem _)
    have hb := bounds_u8 hw
    congr 2
    rw [UInt8.toNat_ofNat']
    omega
end Go.Proofs.YtcmnjpoapcoghabDoor
