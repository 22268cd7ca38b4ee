/- The specification's sums. -/
import Derived.Test.YtdabglemkpokpakDoorRows
import Derived.Test.YtdabglemkpokpakDoorSumPlain
import Derived.Test.YtdabglemkpokpakDoorVarPlain
import Derived.WalkKit
import Derived.WalkSpells
namespace Go.Proofs.YtdabglemkpokpakDoor
open Go.RowKit

def hN : Nat → Nat → Nat
  | 0, x => x
  | n + 1, x => hN n (h1 x)
theorem hN_eight (s : Nat) (b : UInt8) : hN 8 (s ^^^ b.toNat) = sumB s b := rfl

theorem drop_at' (s : ByteArray) (k : Nat) (h : k < s.size) : s.data.toList.drop k = s[k] :: s.data.toList.drop (k + 1) := by
  rw [List.drop_eq_getElem_cons (by simpa using h)]; rfl

theorem specMore (n : Nat) (hn : n < 4294967296) (s : ByteArray) (hs : s.size ≤ 1099511627776) (w : World) :
    Calls Tryd.prog 13 #[.int .u32 (n : Int), .string s] w fun e w' => e = .returned (.int .u32 ((sumL n s.data.toList : Nat) : Int)) ∧ w' = w := by
  go_enter Tryd.func13, Tryd.ntmps13
  go_wp2
  go_loopw [0, 5, 6, 7] (fun v i _ _ wr => wr = w ∧ ∃ (c k : Nat), c < 4294967296 ∧ k ≤ s.size ∧ v = .int .u32 (c : Int) ∧ i = .int .i64 (k : Int) ∧ Hid (sumL n s.data.toList = sumL c (s.data.toList.drop k))) (fun _ i _ _ _ => s.size - (intOf i).toNat)
  case atStart => exact ⟨rfl, n, 0, hn, Nat.zero_le _, rfl, rfl, by show _ = _; simp⟩
  case round =>
    obtain ⟨rfl, c, k, hc, hk, rfl, rfl, hp⟩ := hrel
    by_cases hlt : k < s.size
    · have hp' : Hid (sumL n s.data.toList = sumL (hN 8 (c ^^^ s[k].toNat)) (s.data.toList.drop (k + 1))) := by show _ = _; rw [hp.out, drop_at' s k hlt]; rfl
      have hx := xor_byte_lt s[k] hc
      have hb := s[k].toNat_lt
      have e1 : bits .xor .u32 (c : Int) (s[k].toNat : Int) = ((c ^^^ s[k].toNat : Nat) : Int) := u32_xor_nat _ _ hc (by omega)
      clear hp
      go_wp2
      go_loopw [0, 6, 7] (fun v i _ wr' => wr' = wr ∧ ∃ (d j : Nat), d < 4294967296 ∧ j ≤ 8 ∧ v = .int .u32 (d : Int) ∧ i = .int .i64 (j : Int) ∧ Hid (hN 8 (c ^^^ s[k].toNat) = hN (8 - j) d)) (fun _ i _ _ => 8 - (intOf i).toNat)
      case atStart => exact ⟨rfl, _, 0, hx, by omega, rfl, rfl, by show _ = _; rfl⟩
      case round =>
        obtain ⟨rfl, d, j, hd, hj, rfl, rfl, hq⟩ := hrel
        by_cases hj8 : j < 8
        · have hq' : Hid (hN 8 (c ^^^ s[k].toNat) = hN (8 - (j + 1)) (h1 d)) := by show _ = _; rw [hq.out, show 8 - j = (8 - (j + 1)) + 1 by omega]; rfl
          clear hq
          by_cases ho : d % 2 = 1
          · have hob : ((d : Int) % 2 == 1) = true := beq_iff_eq.2 (by omega)
            have e2 : bits .xor .u32 ((d : Int) / 2) 3558460437 = ((h1 d : Nat) : Int) := by
              rw [h1_odd ho, show ((d : Int) / 2) = ((d / 2 : Nat) : Int) by omega]; exact u32_xor_nat (d / 2) 3558460437 (by omega) (by decide)
            go_wp2
            go_roundw
            case rel => exact ⟨trivial, h1 d, j + 1, h1_lt hd, by omega, rfl, by go_num, hq'⟩
            case measure => simp [intOf]; omega
          · have hob : ((d : Int) % 2 == 1) = false := beq_eq_false_iff_ne.2 (by omega)
            have e2 : ((d : Int) / 2) = ((h1 d : Nat) : Int) := by rw [h1_even ho]; omega
            have E2 : Hid _ := e2
            clear e2
            go_wp2
            go_roundw
            case rel => exact ⟨trivial, h1 d, j + 1, h1_lt hd, by omega, by rw [E2.out], by go_num, hq'⟩
            case measure => simp [intOf]; omega
        · have hq' : hN 8 (c ^^^ s[k].toNat) = d := by rw [hq.out, show 8 - j = 0 by omega]; rfl
          rw [hq'] at hp'
          clear hq hq'
          go_wp2
          go_roundw
          case rel => exact ⟨trivial, d, k + 1, hd, by omega, rfl, by go_num, hp'⟩
          case measure => simp [intOf]; omega
    · have hf : sumL n s.data.toList = c := by rw [hp.out, List.drop_eq_nil_of_le (by simpa using Nat.le_of_not_lt hlt)]; rfl
      have HF : Hid _ := hf
      clear hp hf
      go_wp2
      go_ret
      exact ⟨by rw [HF.out]; rfl, rfl⟩

theorem specSum (s : ByteArray) (hs : s.size ≤ 1099511627776) (w : World) :
    Calls Tryd.prog 15 #[.string s] w fun e w' => e = .returned (.int .u32 ((sumL 4294967295 s.data.toList : Nat) : Int)) ∧ w' = w := by
  go_enter Tryd.func15, Tryd.ntmps15
  go_wp2_with (go_at_call 13; refine (specMore 4294967295 (by omega) _ hs _).mono ?_; rintro e w' ⟨rfl, rfl⟩)
  go_ret
  exact ⟨rfl, rfl⟩
end Go.Proofs.YtdabglemkpokpakDoor
