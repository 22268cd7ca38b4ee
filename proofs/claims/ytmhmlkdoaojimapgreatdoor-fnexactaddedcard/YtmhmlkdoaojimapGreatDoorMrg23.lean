/- Four texts in one. -/
import Derived.Test.YtmhmlkdoaojimapGreatDoorRows
import Derived.Test.YtmhmlkdoaojimapGreatDoorMrg14
import Derived.Below
import Derived.ProofKit
import Derived.Test.YtmhmlkdoaojimapGreatDoorMrg4
import Derived.WalkKit
import Derived.WalkSpells
import Derived.OpenShut
import Derived.Test.YtmhmlkdoaojimapGreatDoorMrg5
import Derived.Test.YtmhmlkdoaojimapGreatDoorMrg19
/- spec.Control. -/
namespace Go.Proofs.YtmhmlkdoaojimapGreatDoor
open Go.RowKit

set_option maxHeartbeats 8000000 in
theorem c_control (s : ByteArray) (w : World) :
    Calls Tryz.prog 67 #[.string s] w fun e w' => e = .returned (.bool (ctlB s)) ∧ Below w.heap.size w w' := by
  by_cases h0 : s = ⟨#[116, 114, 117, 101, 47, 48]⟩
  · subst h0
    have HV : Hid (ctlB ⟨#[116, 114, 117, 101, 47, 48]⟩ = true) := by show _ = _; decide +kernel
    skip
    go_enter Tryz.func67, Tryz.ntmps67
    go_wp2
    go_ret
    exact ⟨by rw [HV.out]; rfl, Below.refl _ _⟩
  by_cases h1 : s = ⟨#[102, 97, 105, 108, 47, 48]⟩
  · subst h1
    have HV : Hid (ctlB ⟨#[102, 97, 105, 108, 47, 48]⟩ = true) := by show _ = _; decide +kernel
    clear h0
    go_enter Tryz.func67, Tryz.ntmps67
    go_wp2
    go_ret
    exact ⟨by rw [HV.out]; rfl, Below.refl _ _⟩
  by_cases h2 : s = ⟨#[33, 47, 48]⟩
  · subst h2
    have HV : Hid (ctlB ⟨#[33, 47, 48]⟩ = true) := by show _ = _; decide +kernel
    clear h0 h1
    go_enter Tryz.func67, Tryz.ntmps67
    go_wp2
    go_ret
    exact ⟨by rw [HV.out]; rfl, Below.refl _ _⟩
  by_cases h3 : s = ⟨#[44, 47, 50]⟩
  · subst h3
    have HV : Hid (ctlB ⟨#[44, 47, 50]⟩ = true) := by show _ = _; decide +kernel
    clear h0 h1 h2
    go_enter Tryz.func67, Tryz.ntmps67
    go_wp2
    go_ret
    exact ⟨by rw [HV.out]; rfl, Below.refl _ _⟩
  by_cases h4 : s = ⟨#[59, 47, 50]⟩
  · subst h4
    have HV : Hid (ctlB ⟨#[59, 47, 50]⟩ = true) := by show _ = _; decide +kernel
    clear h0 h1 h2 h3
    go_enter Tryz.func67, Tryz.ntmps67
    go_wp2
    go_ret
    exact ⟨by rw [HV.out]; rfl, Below.refl _ _⟩
  by_cases h5 : s = ⟨#[45, 62, 47, 50]⟩
  · subst h5
    have HV : Hid (ctlB ⟨#[45, 62, 47, 50]⟩ = true) := by show _ = _; decide +kernel
    clear h0 h1 h2 h3 h4
    go_enter Tryz.func67, Tryz.ntmps67
    go_wp2
    go_ret
    exact ⟨by rw [HV.out]; rfl, Below.refl _ _⟩
  by_cases h6 : s = ⟨#[92, 43, 47, 49]⟩
  · subst h6
    have HV : Hid (ctlB ⟨#[92, 43, 47, 49]⟩ = true) := by show _ = _; decide +kernel
    clear h0 h1 h2 h3 h4 h5
    go_enter Tryz.func67, Tryz.ntmps67
    go_wp2
    go_ret
    exact ⟨by rw [HV.out]; rfl, Below.refl _ _⟩
  by_cases h7 : s = ⟨#[99, 97, 108, 108, 47, 49]⟩
  · subst h7
    have HV : Hid (ctlB ⟨#[99, 97, 108, 108, 47, 49]⟩ = true) := by show _ = _; decide +kernel
    clear h0 h1 h2 h3 h4 h5 h6
    go_enter Tryz.func67, Tryz.ntmps67
    go_wp2
    go_ret
    exact ⟨by rw [HV.out]; rfl, Below.refl _ _⟩
  by_cases h8 : s = ⟨#[99, 97, 108, 108, 47, 50]⟩
  · subst h8
    have HV : Hid (ctlB ⟨#[99, 97, 108, 108, 47, 50]⟩ = true) := by show _ = _; decide +kernel
    clear h0 h1 h2 h3 h4 h5 h6 h7
    go_enter Tryz.func67, Tryz.ntmps67
    go_wp2
    go_ret
    exact ⟨by rw [HV.out]; rfl, Below.refl _ _⟩
  by_cases h9 : s = ⟨#[99, 97, 108, 108, 47, 51]⟩
  · subst h9
    have HV : Hid (ctlB ⟨#[99, 97, 108, 108, 47, 51]⟩ = true) := by show _ = _; decide +kernel
    clear h0 h1 h2 h3 h4 h5 h6 h7 h8
    go_enter Tryz.func67, Tryz.ntmps67
    go_wp2
    go_ret
    exact ⟨by rw [HV.out]; rfl, Below.refl _ _⟩
  by_cases h10 : s = ⟨#[99, 97, 116, 99, 104, 47, 51]⟩
  · subst h10
    have HV : Hid (ctlB ⟨#[99, 97, 116, 99, 104, 47, 51]⟩ = true) := by show _ = _; decide +kernel
    clear h0 h1 h2 h3 h4 h5 h6 h7 h8 h9
    go_enter Tryz.func67, Tryz.ntmps67
    go_wp2
    go_ret
    exact ⟨by rw [HV.out]; rfl, Below.refl _ _⟩
  by_cases h11 : s = ⟨#[116, 104, 114, 111, 119, 47, 49]⟩
  · subst h11
    have HV : Hid (ctlB ⟨#[116, 104, 114, 111, 119, 47, 49]⟩ = true) := by show _ = _; decide +kernel
    clear h0 h1 h2 h3 h4 h5 h6 h7 h8 h9 h10
    go_enter Tryz.func67, Tryz.ntmps67
    go_wp2
    go_ret
    exact ⟨by rw [HV.out]; rfl, Below.refl _ _⟩
  by_cases h12 : s = ⟨#[61, 47, 50]⟩
  · subst h12
    have HV : Hid (ctlB ⟨#[61, 47, 50]⟩ = true) := by show _ = _; decide +kernel
    clear h0 h1 h2 h3 h4 h5 h6 h7 h8 h9 h10 h11
    go_enter Tryz.func67, Tryz.ntmps67
    go_wp2
    go_ret
    exact ⟨by rw [HV.out]; rfl, Below.refl _ _⟩
  by_cases h13 : s = ⟨#[92, 61, 47, 50]⟩
  · subst h13
    have HV : Hid (ctlB ⟨#[92, 61, 47, 50]⟩ = true) := by show _ = _; decide +kernel
    clear h0 h1 h2 h3 h4 h5 h6 h7 h8 h9 h10 h11 h12
    go_enter Tryz.func67, Tryz.ntmps67
    go_wp2
    go_ret
    exact ⟨by rw [HV.out]; rfl, Below.refl _ _⟩
  by_cases h14 : s = ⟨#[61, 61, 47, 50]⟩
  · subst h14
    have HV : Hid (ctlB ⟨#[61, 61, 47, 50]⟩ = true) := by show _ = _; decide +kernel
    clear h0 h1 h2 h3 h4 h5 h6 h7 h8 h9 h10 h11 h12 h13
    go_enter Tryz.func67, Tryz.ntmps67
    go_wp2
    go_ret
    exact ⟨by rw [HV.out]; rfl, Below.refl _ _⟩
  by_cases h15 : s = ⟨#[105, 115, 47, 50]⟩
  · subst h15
    have HV : Hid (ctlB ⟨#[105, 115, 47, 50]⟩ = true) := by show _ = _; decide +kernel
    clear h0 h1 h2 h3 h4 h5 h6 h7 h8 h9 h10 h11 h12 h13 h14
    go_enter Tryz.func67, Tryz.ntmps67
    go_wp2
    go_ret
    exact ⟨by rw [HV.out]; rfl, Below.refl _ _⟩
  by_cases h16 : s = ⟨#[60, 47, 50]⟩
  · subst h16
    have HV : Hid (ctlB ⟨#[60, 47, 50]⟩ = true) := by show _ = _; decide +kernel
    clear h0 h1 h2 h3 h4 h5 h6 h7 h8 h9 h10 h11 h12 h13 h14 h15
    go_enter Tryz.func67, Tryz.ntmps67
    go_wp2
    go_ret
    exact ⟨by rw [HV.out]; rfl, Below.refl _ _⟩
  by_cases h17 : s = ⟨#[61, 58, 61, 47, 50]⟩
  · subst h17
    have HV : Hid (ctlB ⟨#[61, 58, 61, 47, 50]⟩ = true) := by show _ = _; decide +kernel
    clear h0 h1 h2 h3 h4 h5 h6 h7 h8 h9 h10 h11 h12 h13 h14 h15 h16
    go_enter Tryz.func67, Tryz.ntmps67
    go_wp2
    go_ret
    exact ⟨by rw [HV.out]; rfl, Below.refl _ _⟩
  by_cases h18 : s = ⟨#[118, 97, 114, 47, 49]⟩
  · subst h18
    have HV : Hid (ctlB ⟨#[118, 97, 114, 47, 49]⟩ = true) := by show _ = _; decide +kernel
    clear h0 h1 h2 h3 h4 h5 h6 h7 h8 h9 h10 h11 h12 h13 h14 h15 h16 h17
    go_enter Tryz.func67, Tryz.ntmps67
    go_wp2
    go_ret
    exact ⟨by rw [HV.out]; rfl, Below.refl _ _⟩
  by_cases h19 : s = ⟨#[97, 116, 111, 109, 47, 49]⟩
  · subst h19
    have HV : Hid (ctlB ⟨#[97, 116, 111, 109, 47, 49]⟩ = true) := by show _ = _; decide +kernel
    clear h0 h1 h2 h3 h4 h5 h6 h7 h8 h9 h10 h11 h12 h13 h14 h15 h16 h17 h18
    go_enter Tryz.func67, Tryz.ntmps67
    go_wp2
    go_ret
    exact ⟨by rw [HV.out]; rfl, Below.refl _ _⟩
  by_cases h20 : s = ⟨#[119, 114, 105, 116, 101, 47, 49]⟩
  · subst h20
    have HV : Hid (ctlB ⟨#[119, 114, 105, 116, 101, 47, 49]⟩ = true) := by show _ = _; decide +kernel
    clear h0 h1 h2 h3 h4 h5 h6 h7 h8 h9 h10 h11 h12 h13 h14 h15 h16 h17 h18 h19
    go_enter Tryz.func67, Tryz.ntmps67
    go_wp2
    go_ret
    exact ⟨by rw [HV.out]; rfl, Below.refl _ _⟩
  by_cases h21 : s = ⟨#[97, 115, 115, 101, 114, 116, 122, 47, 49]⟩
  · subst h21
    have HV : Hid (ctlB ⟨#[97, 115, 115, 101, 114, 116, 122, 47, 49]⟩ = true) := by show _ = _; decide +kernel
    clear h0 h1 h2 h3 h4 h5 h6 h7 h8 h9 h10 h11 h12 h13 h14 h15 h16 h17 h18 h19 h20
    go_enter Tryz.func67, Tryz.ntmps67
    go_wp2
    go_ret
    exact ⟨by rw [HV.out]; rfl, Below.refl _ _⟩
  by_cases h22 : s = ⟨#[114, 101, 116, 114, 97, 99, 116, 47, 49]⟩
  · subst h22
    have HV : Hid (ctlB ⟨#[114, 101, 116, 114, 97, 99, 116, 47, 49]⟩ = true) := by show _ = _; decide +kernel
    clear h0 h1 h2 h3 h4 h5 h6 h7 h8 h9 h10 h11 h12 h13 h14 h15 h16 h17 h18 h19 h20 h21
    go_enter Tryz.func67, Tryz.ntmps67
    go_wp2
    go_ret
    exact ⟨by rw [HV.out]; rfl, Below.refl _ _⟩
  by_cases h23 : s = ⟨#[58, 45, 47, 50]⟩
  · subst h23
    have HV : Hid (ctlB ⟨#[58, 45, 47, 50]⟩ = true) := by show _ = _; decide +kernel
    clear h0 h1 h2 h3 h4 h5 h6 h7 h8 h9 h10 h11 h12 h13 h14 h15 h16 h17 h18 h19 h20 h21 h22
    go_enter Tryz.func67, Tryz.ntmps67
    go_wp2
    go_ret
    exact ⟨by rw [HV.out]; rfl, Below.refl _ _⟩
  by_cases h24 : s = ⟨#[58, 45, 47, 49]⟩
  · subst h24
    have HV : Hid (ctlB ⟨#[58, 45, 47, 49]⟩ = true) := by show _ = _; decide +kernel
    clear h0 h1 h2 h3 h4 h5 h6 h7 h8 h9 h10 h11 h12 h13 h14 h15 h16 h17 h18 h19 h20 h21 h22 h23
    go_enter Tryz.func67, Tryz.ntmps67
    go_wp2
    go_ret
    exact ⟨by rw [HV.out]; rfl, Below.refl _ _⟩
  by_cases h25 : s = ⟨#[45, 45, 62, 47, 50]⟩
  · subst h25
    have HV : Hid (ctlB ⟨#[45, 45, 62, 47, 50]⟩ = true) := by show _ = _; decide +kernel
    clear h0 h1 h2 h3 h4 h5 h6 h7 h8 h9 h10 h11 h12 h13 h14 h15 h16 h17 h18 h19 h20 h21 h22 h23 h24
    go_enter Tryz.func67, Tryz.ntmps67
    go_wp2
    go_ret
    exact ⟨by rw [HV.out]; rfl, Below.refl _ _⟩
  have e0 : (s.toList == [116, 114, 117, 101, 47, 48]) = false := toL_neq (l := [116, 114, 117, 101, 47, 48]) h0
  have e1 : (s.toList == [102, 97, 105, 108, 47, 48]) = false := toL_neq (l := [102, 97, 105, 108, 47, 48]) h1
  have e2 : (s.toList == [33, 47, 48]) = false := toL_neq (l := [33, 47, 48]) h2
  have e3 : (s.toList == [44, 47, 50]) = false := toL_neq (l := [44, 47, 50]) h3
  have e4 : (s.toList == [59, 47, 50]) = false := toL_neq (l := [59, 47, 50]) h4
  have e5 : (s.toList == [45, 62, 47, 50]) = false := toL_neq (l := [45, 62, 47, 50]) h5
  have e6 : (s.toList == [92, 43, 47, 49]) = false := toL_neq (l := [92, 43, 47, 49]) h6
  have e7 : (s.toList == [99, 97, 108, 108, 47, 49]) = false := toL_neq (l := [99, 97, 108, 108, 47, 49]) h7
  have e8 : (s.toList == [99, 97, 108, 108, 47, 50]) = false := toL_neq (l := [99, 97, 108, 108, 47, 50]) h8
  have e9 : (s.toList == [99, 97, 108, 108, 47, 51]) = false := toL_neq (l := [99, 97, 108, 108, 47, 51]) h9
  have e10 : (s.toList == [99, 97, 116, 99, 104, 47, 51]) = false := toL_neq (l := [99, 97, 116, 99, 104, 47, 51]) h10
  have e11 : (s.toList == [116, 104, 114, 111, 119, 47, 49]) = false := toL_neq (l := [116, 104, 114, 111, 119, 47, 49]) h11
  have e12 : (s.toList == [61, 47, 50]) = false := toL_neq (l := [61, 47, 50]) h12
  have e13 : (s.toList == [92, 61, 47, 50]) = false := toL_neq (l := [92, 61, 47, 50]) h13
  have e14 : (s.toList == [61, 61, 47, 50]) = false := toL_neq (l := [61, 61, 47, 50]) h14
  have e15 : (s.toList == [105, 115, 47, 50]) = false := toL_neq (l := [105, 115, 47, 50]) h15
  have e16 : (s.toList == [60, 47, 50]) = false := toL_neq (l := [60, 47, 50]) h16
  have e17 : (s.toList == [61, 58, 61, 47, 50]) = false := toL_neq (l := [61, 58, 61, 47, 50]) h17
  have e18 : (s.toList == [118, 97, 114, 47, 49]) = false := toL_neq (l := [118, 97, 114, 47, 49]) h18
  have e19 : (s.toList == [97, 116, 111, 109, 47, 49]) = false := toL_neq (l := [97, 116, 111, 109, 47, 49]) h19
  have e20 : (s.toList == [119, 114, 105, 116, 101, 47, 49]) = false := toL_neq (l := [119, 114, 105, 116, 101, 47, 49]) h20
  have e21 : (s.toList == [97, 115, 115, 101, 114, 116, 122, 47, 49]) = false := toL_neq (l := [97, 115, 115, 101, 114, 116, 122, 47, 49]) h21
  have e22 : (s.toList == [114, 101, 116, 114, 97, 99, 116, 47, 49]) = false := toL_neq (l := [114, 101, 116, 114, 97, 99, 116, 47, 49]) h22
  have e23 : (s.toList == [58, 45, 47, 50]) = false := toL_neq (l := [58, 45, 47, 50]) h23
  have e24 : (s.toList == [58, 45, 47, 49]) = false := toL_neq (l := [58, 45, 47, 49]) h24
  have e25 : (s.toList == [45, 45, 62, 47, 50]) = false := toL_neq (l := [45, 45, 62, 47, 50]) h25
  clear h0 h1 h2 h3 h4 h5 h6 h7 h8 h9 h10 h11 h12 h13 h14 h15 h16 h17 h18 h19 h20 h21 h22 h23 h24 h25
  have HV : Hid (ctlB s = false) := ctl_no e0 e1 e2 e3 e4 e5 e6 e7 e8 e9 e10 e11 e12 e13 e14 e15 e16 e17 e18 e19 e20 e21 e22 e23 e24 e25
  go_enter Tryz.func67, Tryz.ntmps67
  go_wp2
  go_ret
  exact ⟨by rw [HV.out]; rfl, Below.refl _ _⟩
end Go.Proofs.YtmhmlkdoaojimapGreatDoor

/- The specification's figure of a number below 16. -/
namespace Go.Proofs.YtmhmlkdoaojimapGreatDoor
open Go.RowKit

theorem figure_any (x : Int) (w : World) (h0 : 0 ≤ x) (h1 : x < 16) :
    Calls Tryz.prog 82 #[.int .i64 x] w fun e w' => e = .returned (.int .u8 ((fig x.toNat).toNat : Int)) ∧ w' = w := by
  by_cases h : x < 10
  · go_enter Tryz.func82, Tryz.ntmps82
    go_wp2
    go_ret
    refine ⟨?_, rfl⟩
    congr 2
    rw [fig_nat _ (by omega), if_pos (by omega)]
    simp; omega
  · go_enter Tryz.func82, Tryz.ntmps82
    go_wp2
    go_ret
    refine ⟨?_, rfl⟩
    congr 2
    rw [fig_nat _ (by omega), if_neg (by omega)]
    simp; omega
end Go.Proofs.YtmhmlkdoaojimapGreatDoor

/- The specification's Decimal writes decI. -/
namespace Go.Proofs.YtmhmlkdoaojimapGreatDoor
open Go.RowKit

set_option maxHeartbeats 1000000 in
theorem dec_nat (N : Nat) (w : World) (hN : N ≤ 9223372036854775807) :
    Calls Tryz.prog 76 #[.int .i64 (N : Int)] w fun e w' => e = .returned (.string ⟨(decB N).toArray⟩) ∧ Below w.heap.size w w' := by
  by_cases h0 : N = 0
  · subst h0
    go_enter Tryz.func76, Tryz.ntmps76
    go_wp2
    go_ret
    exact ⟨rfl, Below.refl _ _⟩
  · have hb0 : ((N : Int) == 0) = false := beq_eq_false_iff_ne.2 (by omega)
    have hpos : 0 < N := by omega
    rw [decB, if_neg h0]
    clear h0
    go_enter Tryz.func76, Tryz.ntmps76
    go_wp2
    go_loopw [0, 4, 5] (fun vn vs _ wr => ∃ (m : Nat) (q : List UInt8), vn = .int .i64 m ∧ vs = .string ⟨q.toArray⟩ ∧ m ≤ N ∧ q.length ≤ 20 ∧ Hid (decR m ++ q = decR N) ∧ Below w.heap.size w wr)
      (fun vn _ _ _ => (intOf vn).toNat)
    case atStart => exact ⟨N, [], rfl, rfl, Nat.le_refl _, by simp, by show _ = _; simp, Below.refl _ _⟩
    case round =>
      obtain ⟨m, q, rfl, rfl, hmN, hql, hq, hb⟩ := hrel
      have hsz := hb.size
      by_cases hm : m = 0
      · subst hm
        have hf : q = decR N := by have := hq.out; rwa [decR_zero, List.nil_append] at this
        have hF : Hid _ := hf
        clear hq hf
        go_wp2
        go_ret
        exact ⟨by rw [← hF.out]; rfl, hb⟩
      · have hne : ((m : Int) != 0) = true := by rw [bne_iff_ne]; omega
        have hadd := add_one (fig (m % 10)) q (by omega)
        have hcv := fun W => conv_one W (fig (m % 10))
        have hq' : Hid _ := dec_step (show 0 < m by omega) hq.out
        have hql' := dec_q (by omega) hq'.out
        have hmp : 0 < m := by omega
        clear hm hq
        go_wp2_with (go_at_call 82; refine (figure_any _ _ (by omega) (by omega)).mono ?_; rintro e w' ⟨rfl, rfl⟩)
        go_roundw
        case rel => exact ⟨m / 10, _, by go_num, rfl, by omega, hql', hq', hb.alloc hsz _⟩
        case measure => simp [intOf]; omega

set_option maxHeartbeats 1000000 in
theorem dec_neg (N : Nat) (w : World) (h0 : 0 < N) (hN : N ≤ 9223372036854775808) :
    Calls Tryz.prog 76 #[.int .i64 (-(N : Int))] w fun e w' => e = .returned (.string ⟨(45 :: decR N).toArray⟩) ∧ Below w.heap.size w w' := by
  have hb0 : (-(N : Int) == 0) = false := beq_eq_false_iff_ne.2 (by omega)
  have hlt : -(N : Int) < 0 := by omega
  have hfin := add_one 45 (decR N) (by have := decR_len 20 N (by omega); omega)
  go_enter Tryz.func76, Tryz.ntmps76
  go_wp2
  go_loopw [0, 4, 5] (fun vn vs _ wr => ∃ (m : Nat) (q : List UInt8), vn = .int .i64 (-(m : Int)) ∧ vs = .string ⟨q.toArray⟩ ∧ m ≤ N ∧ q.length ≤ 20 ∧ Hid (decR m ++ q = decR N) ∧ Below w.heap.size w wr)
    (fun vn _ _ _ => (- intOf vn).toNat)
  case atStart => exact ⟨N, [], rfl, rfl, Nat.le_refl _, by simp, by show _ = _; simp, Below.refl _ _⟩
  case round =>
    obtain ⟨m, q, rfl, rfl, hmN, hql, hq, hb⟩ := hrel
    have hsz := hb.size
    by_cases hm : m = 0
    · subst hm
      have hf : q = decR N := by have := hq.out; rwa [decR_zero, List.nil_append] at this
      subst hf
      clear hq
      go_wp2
      go_ret
      exact ⟨rfl, hb⟩
    · have hne : (-(m : Int) != 0) = true := by rw [bne_iff_ne]; omega
      have hq' : Hid _ := dec_step (show 0 < m by omega) hq.out
      have hql' := dec_q (by omega) hq'.out
      have hd : (-(m : Int)).tdiv 10 = -((m : Int) / 10) := by rw [Int.neg_tdiv, Int.tdiv_eq_ediv_of_nonneg (by omega)]
      have hmp : 0 < m := by omega
      clear hm hq hfin
      by_cases hz : m % 10 = 0
      · have ht : (-(m : Int)).tmod 10 = 0 := by rw [Int.neg_tmod, Int.tmod_eq_emod_of_nonneg (by omega)]; omega
        rw [hz] at hq' hql'
        have hadd := add_one (fig 0) q (by omega)
        have hcv := fun W => conv_one W (fig 0)
        clear hz
        go_wp2_with (go_at_call 82; refine (figure_any _ _ (by omega) (by omega)).mono ?_; rintro e w' ⟨rfl, rfl⟩)
        go_roundw
        case rel => exact ⟨m / 10, _, by go_num, rfl, by omega, hql', hq', hb.alloc hsz _⟩
        case measure => simp [intOf]; omega
      · have ht : (-(m : Int)).tmod 10 = -((m : Int) % 10) := by rw [Int.neg_tmod, Int.tmod_eq_emod_of_nonneg (by omega)]
        have hadd := add_one (fig (m % 10)) q (by omega)
        have hcv := fun W => conv_one W (fig (m % 10))
        go_wp2_with (go_at_call 82; refine (figure_any _ _ (by omega) (by omega)).mono ?_; rintro e w' ⟨rfl, rfl⟩)
        go_roundw
        case rel => exact ⟨m / 10, _, by go_num, rfl, by omega, hql', hq', hb.alloc hsz _⟩
        case measure => simp [intOf]; omega
end Go.Proofs.YtmhmlkdoaojimapGreatDoor

/- The specification's Decimal, too. -/
namespace Go.Proofs.YtmhmlkdoaojimapGreatDoor
open Go.RowKit

theorem dec_any (n : Int) (w : World) (h0 : -9223372036854775808 ≤ n) (h1 : n ≤ 9223372036854775807) :
    Calls Tryz.prog 76 #[.int .i64 n] w fun e w' => e = .returned (.string ⟨(decI n).toArray⟩) ∧ Below w.heap.size w w' := by
  unfold decI
  by_cases h : n < 0
  · rw [if_pos h]
    have := dec_neg n.natAbs w (by omega) (by omega)
    rwa [show -(n.natAbs : Int) = n by omega] at this
  · rw [if_neg h]
    have := dec_nat n.toNat w (by omega)
    rwa [show (n.toNat : Int) = n by omega] at this

end Go.Proofs.YtmhmlkdoaojimapGreatDoor
