/- Numbers and texts drawn off the cursor, and the cursor made. -/
import Derived.Test.YtcmnjpoapcoghabDoorCur
namespace Go.Proofs.YtcmnjpoapcoghabDoor
open Go.RowKit

theorem below_any (B : Nat) (w : World) (g n m : Nat) (hm0 : 0 < m) (hm1 : m ≤ 4294967296) (hc : Cur B w g n) :
    Calls Tryd.prog 12 #[.pointer (some ⟨g, 0, none⟩), .int .i64 (m : Int)] w fun e w' => (∃ x : Nat, x < m ∧ e = .returned (.int .i64 (x : Int))) ∧ Cur B w' g n ∧ But g w w' := by
  have HB : Hid (But g w w) := But.refl g w
  have HC : Hid _ := hc
  clear hc
  by_cases h : m ≤ 256
  · go_enter Tryd.func12, Tryd.ntmps12
    go_wp2_with (go_at_call 19; refine (byte_any B _ g n HC.out).mono ?_; rintro e w' ⟨⟨x, hx, rfl⟩, hc, hb⟩; replace HB : Hid (But g w w') := HB.out.trans hb; replace HC : Hid (Cur B w' g n) := hc; clear hc hb)
    go_ret
    refine ⟨⟨x % m, Nat.mod_lt _ hm0, ?_⟩, HC.out, HB.out⟩
    simp
  · go_enter Tryd.func12, Tryd.ntmps12
    go_wp2_with (go_at_call 19; refine (byte_any B _ g n HC.out).mono ?_; rintro e w' ⟨⟨x, hx, rfl⟩, hc, hb⟩; replace HB : Hid (But g w w') := HB.out.trans hb; replace HC : Hid (Cur B w' g n) := hc; clear hc hb)
    go_ret
    rename_i w1 x1 hx1 w2 x2 hx2 w3 x3 hx3
    refine ⟨⟨(x1 * 16777216 + x2 * 65536 + x3 * 256 + x) % m, Nat.mod_lt _ hm0, ?_⟩, HC.out, HB.out⟩
    simp

theorem andM (x : Int) : ∃ k : Nat, k < 1073741824 ∧ bits .and .i64 x 1073741823 = (k : Int) := by
  have hle : (BitVec.ofInt 64 x &&& BitVec.ofInt 64 1073741823).toNat ≤ 1073741823 := by
    rw [BitVec.toNat_and]; exact Nat.and_le_right
  refine ⟨(BitVec.ofInt 64 x &&& BitVec.ofInt 64 1073741823).toNat, by omega, ?_⟩
  show IntKind.i64.wrap ((BitVec.ofInt 64 x &&& BitVec.ofInt 64 1073741823).toNat : Int) = _
  generalize (BitVec.ofInt 64 x &&& BitVec.ofInt 64 1073741823).toNat = m at *
  have e : IntKind.i64.wrap (m : Int) = if 9223372036854775808 ≤ (m : Int) % 18446744073709551616 then (m : Int) % 18446744073709551616 - 18446744073709551616 else (m : Int) % 18446744073709551616 := by simp [IntKind.wrap, IntKind.bits, IntKind.signed]
  rw [e, if_neg (by omega)]
  omega

set_option maxRecDepth 20000 in
theorem new_any (B : Nat) (w : World) (v : Value) (n : Nat) (hcode : CodeIn B w v n) (hB : B ≤ w.heap.size) :
    Calls Tryd.prog 11 #[v] w fun e w' => e = .returned (.pointer (some ⟨w.heap.size, 0, none⟩)) ∧ Cur B w' w.heap.size n ∧ Below w.heap.size w w' := by
  have HK : Hid _ := hcode
  obtain ⟨ao, cap, rfl, hn, hcells⟩ := hcode
  have HE : Hid _ := hcells
  clear hcells
  go_enter Tryd.func11, Tryd.ntmps11
  go_wp2
  go_loopw [3, 4] (fun vh vi wr => wr = w ∧ ∃ (h i : Nat), h < 2147483648 ∧ i ≤ n ∧ i ≤ 4000 ∧ vh = .int .i64 (h : Int) ∧ vi = .int .i64 (i : Int)) (fun _ i _ => n - (intOf i).toNat)
  case atStart => exact ⟨rfl, 95101 + n, 0, by omega, by omega, by omega, by simp, rfl⟩
  case round =>
    obtain ⟨rfl, h, i, hh, hi, hi4, rfl, rfl⟩ := hrel
    by_cases hlt : i < n ∧ i < 4000
    · obtain ⟨h1, h2⟩ := hlt
      obtain ⟨b, off, z, rfl, hbB, hbw, hz⟩ := HE.out (by omega)
      have cz := hz i h1
      have hzl := (z i).toNat_lt
      obtain ⟨k, hk, ek⟩ := andM ((h : Int) * 131 + ((z i).toNat : Int) + 7)
      clear hz HE
      go_wp2
      go_roundw
      case rel => exact ⟨trivial, k, i + 1, by omega, by omega, by omega, rfl, by go_num⟩
      case measure => simp [intOf]; omega
    · by_cases h1 : i < n
      · have h2 : ¬ i < 4000 := fun h2 => hlt ⟨h1, h2⟩
        clear hlt
        go_wp2
        go_ret
        exact ⟨rfl, cur_new HK.out hB h hh _, (Below.refl _ _).alloc (Nat.le_refl _) _⟩
      · clear hlt
        go_wp2
        go_ret
        exact ⟨rfl, cur_new HK.out hB h hh _, (Below.refl _ _).alloc (Nat.le_refl _) _⟩
end Go.Proofs.YtcmnjpoapcoghabDoor
