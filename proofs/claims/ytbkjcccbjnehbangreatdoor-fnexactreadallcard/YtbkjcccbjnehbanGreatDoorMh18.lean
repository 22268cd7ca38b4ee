import Derived.Test.YtbkjcccbjnehbanGreatDoorMh17
namespace Go.Proofs.YtbkjcccbjnehbanGreatDoor
open Go.RowKit
def behindC : List Sg → Nat
 | [] => 0
 | x :: r => if x.kind = 5 then 1 else 1 + behindC r
theorem behindC_le : ∀ r : List Sg, behindC r ≤ r.length
 | [] => Nat.le_refl _
 | x :: r => by
   have := behindC_le r
   simp only [behindC, List.length_cons]
   split <;> omega
set_option maxHeartbeats 4000000 in
theorem s_behind (L : List Sg) (lv : Value) (a : Nat) (w : World) (ha : a ≤ L.length) (hL : L.length ≤ 3000) (h : SgRow w 0 L lv) :
   Calls Tryz.prog 25 #[lv, .int .i64 (a : Int)] w fun e w' => e = .returned (.int .i64 ((a + behindC (L.drop a) : Nat) : Int)) ∧ w' = w := by
 obtain ⟨Z, hZ⟩ : ∃ Z, Z = a + behindC (L.drop a) := ⟨_, rfl⟩
 rw [← hZ]
 have HZ : Hid (Z = a + behindC (L.drop a)) := hZ
 obtain ⟨ao, cap, rfl, hcap, hlc⟩ := h.shape
 have HR : Hid (SgRow w 0 L (.slice ao L.length cap)) := h
 obtain ⟨NL, hNL⟩ : ∃ NL, NL = L.length := ⟨_, rfl⟩
 rw [← hNL]
 have HNL : Hid (NL = L.length) := hNL
 have hN3 : (NL : Int) ≤ 3000 := by omega
 have haN : a ≤ NL := by omega
 have d0 : decide ((a : Int) < 0) = false := decide_eq_false (by omega)
 clear hZ h hcap hlc hNL ha hL
 go_enter Tryz.func25, Tryz.ntmps25
 go_wp2
 go_loopw [1] (fun vi wr => ∃ j : Nat, j ≤ NL ∧ vi = .int .i64 (j : Int) ∧ Hid (Z = j + behindC (L.drop j)) ∧ wr = w) (fun i _ => NL - (intOf i).toNat)
 case atStart => exact ⟨a, haN, rfl, HZ.out, rfl⟩
 case round =>
   obtain ⟨j, hj, rfl, HJ, hwr⟩ := hrel
   replace hwr := hwr.symm
   subst hwr
   by_cases hlt : j < NL
   · have hjL : j < L.length := by have := HNL.out; omega
     obtain ⟨lb, cap2, e, _, _, _, _, hc⟩ := HR.out.cells (by rintro rfl; simp at hjL)
     obtain ⟨rfl, _, _⟩ := Value.slice.inj e
     obtain ⟨k0, _⟩ := hc j hjL
     obtain ⟨x, hx⟩ : ∃ x, x = L[j] := ⟨_, rfl⟩
     rw [← hx] at k0
     have hdr : L.drop j = x :: L.drop (j + 1) := by rw [hx]; exact List.drop_eq_getElem_cons hjL
     obtain ⟨j1, hj1⟩ : ∃ j1, j1 = j + 1 := ⟨_, rfl⟩
     have hs1 : (j : Int) + 1 = (j1 : Int) := by omega
     have hs2 : (j1 : Int) - 1 = (j : Int) := by omega
     have HJ1 : Hid (j1 = j + 1) := hj1
     by_cases h5 : x.kind = 5
     · have HF : Hid (Z = j1) := by
         show _ = _
         rw [HJ.out, hdr, hj1]; simp only [behindC, if_pos h5]
       clear hc e hdr hx hj1
       rw [h5] at k0
       go_wp2
       go_ret
       exact ⟨by rw [HF.out]; rfl, by first | rfl | trivial⟩
     · have HF : Hid (Z = j1 + behindC (L.drop j1)) := by
         show _ = _
         rw [HJ.out, hdr, hj1]; simp only [behindC, if_neg h5]; omega
       have e5 : (x.kind == 5) = false := by simpa using h5
       generalize x.kind = xk at *
       clear hc e hdr hx hj1 h5
       go_wp2
       go_roundw
       case rel => exact ⟨j1, by have := HJ1.out; omega, rfl, HF.out, by first | rfl | trivial⟩
       case measure => have := HJ1.out; simp [intOf]; omega
   · obtain rfl : NL = j := by omega
     have HF : Hid (Z = NL) := by
       show _ = _
       rw [HJ.out, List.drop_eq_nil_of_le (by have := HNL.out; omega)]; rfl
     go_wp2
     go_ret
     exact ⟨by rw [HF.out]; rfl, by first | rfl | trivial⟩
end Go.Proofs.YtbkjcccbjnehbanGreatDoor
