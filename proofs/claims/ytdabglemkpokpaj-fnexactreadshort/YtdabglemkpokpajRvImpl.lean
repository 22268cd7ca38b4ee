/- The code's ReadVar reads what rvScan reads. -/
import Derived.Test.YtdabglemkpokpajVarI
import Derived.Test.YtdabglemkpokpajRvPlain
namespace Go.Proofs.Ytdabglemkpokpaj
open Go.RowKit

def rvRes (l : List UInt8) (a : Nat) : Value :=
  match rvScan (l.drop a) 0 0 1 with
  | some (n, m) => .tuple #[.int .i64 (n : Int), .int .i64 ((a + m : Nat) : Int), .bool true]
  | none => .tuple #[.int .i64 0, .int .i64 0, .bool false]

theorem drop_cons (s : ByteArray) (i : Nat) (h : i < s.size) : s.data.toList.drop i = s[i] :: s.data.toList.drop (i + 1) := by
  rw [List.drop_eq_getElem_cons (by simpa using h)]; rfl

theorem rvRes_none {l : List UInt8} {a : Nat} (h : rvScan (l.drop a) 0 0 1 = none) : rvRes l a = .tuple #[.int .i64 0, .int .i64 0, .bool false] := by
  unfold rvRes; rw [h]
theorem rvRes_some {l : List UInt8} {a n m : Nat} (h : rvScan (l.drop a) 0 0 1 = some (n, m)) : rvRes l a = .tuple #[.int .i64 (n : Int), .int .i64 ((a + m : Nat) : Int), .bool true] := by
  unfold rvRes; rw [h]

theorem scan_more (s : ByteArray) (i k n u : Nat) (h : i < s.size) (hk : k < 5) (hc : 127 < s[i].toNat) :
    rvScan (s.data.toList.drop i) k n u = rvScan (s.data.toList.drop (i + 1)) (k + 1) (n + s[i].toNat % 128 * u) (u * 128) := by
  rw [drop_cons s i h, rvScan, if_neg (by omega), if_pos hc]
theorem scan_zero (s : ByteArray) (i k n u : Nat) (h : i < s.size) (hc : s[i].toNat = 0) (h0 : 0 < k) :
    rvScan (s.data.toList.drop i) k n u = none := by
  rw [drop_cons s i h, rvScan]
  by_cases hk : 5 ≤ k
  · rw [if_pos hk]
  · rw [if_neg hk, if_neg (by omega), if_pos ⟨hc, h0⟩]
theorem scan_big (s : ByteArray) (i k n u : Nat) (h : i < s.size) (hc : ¬ 127 < s[i].toNat) (h0 : 1000000000 < n + s[i].toNat % 128 * u) :
    rvScan (s.data.toList.drop i) k n u = none := by
  rw [drop_cons s i h, rvScan]
  by_cases hk : 5 ≤ k
  · rw [if_pos hk]
  · rw [if_neg hk, if_neg hc]
    by_cases hz : s[i].toNat = 0 ∧ 0 < k
    · rw [if_pos hz]
    · rw [if_neg hz, if_pos h0]
theorem scan_yes (s : ByteArray) (i k n u : Nat) (h : i < s.size) (hk : k < 5) (hc : ¬ 127 < s[i].toNat) (hz : ¬ (s[i].toNat = 0 ∧ 0 < k)) (h0 : ¬ 1000000000 < n + s[i].toNat % 128 * u) :
    rvScan (s.data.toList.drop i) k n u = some (n + s[i].toNat % 128 * u, k + 1) := by
  rw [drop_cons s i h, rvScan, if_neg (by omega), if_neg hc, if_neg hz, if_neg h0]
theorem scan_five (l : List UInt8) (k n u : Nat) (hk : 5 ≤ k) : rvScan l k n u = none := by
  cases l with
  | nil => rw [rvScan]
  | cons c r => rw [rvScan, if_pos hk]
theorem scan_end (s : ByteArray) (i k n u : Nat) (h : ¬ i < s.size) : rvScan (s.data.toList.drop i) k n u = none := by
  rw [List.drop_eq_nil_of_le (by simp; omega), rvScan]

theorem pow_lt5 (k : Nat) (h : k < 5) : 128 ^ k ≤ 268435456 :=
  Nat.le_trans (Nat.pow_le_pow_right (by omega) (show k ≤ 4 by omega)) (by decide)

theorem fig_le (c : UInt8) (u : Nat) (h : u ≤ 268435456) : 0 ≤ (c.toNat : Int) % 128 * (u : Int) ∧ (c.toNat : Int) % 128 * (u : Int) ≤ 34091302912 := by
  have h1 : c.toNat % 128 * u ≤ 127 * 268435456 := Nat.mul_le_mul (by omega) h
  have e : (c.toNat : Int) % 128 * (u : Int) = ((c.toNat % 128 * u : Nat) : Int) := by simp
  rw [e]; omega

theorem implRv_out (s : ByteArray) (a : Int) (w : World) (_hs : s.size ≤ 1048576) (h : a < 0 ∨ (s.size : Int) < a) :
    Calls Try.prog 9 #[.string s, .int .i64 a] w fun e w' => e = .returned (.tuple #[.int .i64 0, .int .i64 0, .bool false]) ∧ w' = w := by
  by_cases h0 : a < 0
  · clear h
    go_enter Try.func9, Try.ntmps9
    go_wp2
    go_step3
    go_wp2
    rw [Exit.noGoto_ret]
    go_ret3
    exact ⟨rfl, rfl⟩
  · have h1 : (s.size : Int) < a := by omega
    clear h
    go_enter Try.func9, Try.ntmps9
    go_wp2
    go_step3
    go_wp2
    rw [Exit.noGoto_ret]
    go_ret3
    exact ⟨rfl, rfl⟩

set_option maxHeartbeats 1000000 in
theorem implRv_in (s : ByteArray) (a : Nat) (w : World) (hs : s.size ≤ 1048576) (ha : a ≤ s.size) :
    Calls Try.prog 9 #[.string s, .int .i64 a] w fun e w' => e = .returned (rvRes s.data.toList a) ∧ w' = w := by
  go_enter Try.func9, Try.ntmps9
  go_wp2
  go_step3
  go_wp2
  go_step3
  go_wp2
  go_loop [7, 8, 9, 10] (fun vn vu vi _ => ∃ i n u : Nat, a ≤ i ∧ i ≤ s.size ∧ i ≤ a + 5 ∧ vi = .int .i64 i ∧ vn = .int .i64 n ∧ vu = .int .i64 u ∧ Hid (u = 128 ^ (i - a)) ∧ n < u ∧
      Hid (rvScan (s.data.toList.drop i) (i - a) n u = rvScan (s.data.toList.drop a) 0 0 1)) (fun _ _ vi _ => s.size - (intOf vi).toNat)
  case atStart => exact ⟨a, 0, 1, Nat.le_refl _, ha, by omega, rfl, rfl, rfl, by show _ = _; simp, by omega, by show _ = _; simp⟩
  case round =>
    obtain ⟨i, n, u, hi0, hi1, hi5, rfl, rfl, rfl, hu, hn, hsc⟩ := hrel
    by_cases h1 : i < s.size
    · by_cases h5 : i < a + 5
      · have hub : u ≤ 268435456 := by rw [hu.out]; exact pow_lt5 _ (by omega)
        obtain ⟨hf0, hf1⟩ := fig_le s[i] u hub
        have hc8 := UInt8.toNat_lt s[i]
        by_cases h3 : 127 < s[i].toNat
        · have hm : Hid (u * 128 = 128 ^ (i + 1 - a)) := by
            show _ = _
            rw [hu.out, show i + 1 - a = (i - a) + 1 by omega, Nat.pow_succ]
          have hq : Hid (rvScan (s.data.toList.drop (i + 1)) (i + 1 - a) (n + s[i].toNat % 128 * u) (u * 128) = rvScan (s.data.toList.drop a) 0 0 1) := by
            show _ = _
            rw [← hsc.out, scan_more s i (i - a) n u h1 (by omega) h3, show i + 1 - a = (i - a) + 1 by omega]
          have hlt : n + s[i].toNat % 128 * u < u * 128 := by
            have : s[i].toNat % 128 * u ≤ 127 * u := Nat.mul_le_mul_right _ (by omega)
            omega
          clear hu hsc
          go_wp2
          go_round
          case rel => exact ⟨i + 1, n + s[i].toNat % 128 * u, u * 128, by omega, by omega, by omega, by go_num, by simp, by simp, hm, hlt, hq⟩
          case measure => simp [intOf]; omega
        · by_cases hz : s[i].toNat = 0 ∧ a < i
          · have hf : Hid (rvRes s.data.toList a = _) := rvRes_none (hsc.out ▸ scan_zero s i (i - a) n u h1 hz.1 (by omega))
            obtain ⟨hz0, hz1⟩ := hz
            have hzb : ((s[i].toNat : Int) == 0) = true := beq_iff_eq.2 (by omega)
            clear hu hsc hz0
            go_wp2
            go_ret3
            exact ⟨by rw [hf.out]; rfl, rfl⟩
          · by_cases hb : 1000000000 < n + s[i].toNat % 128 * u
            · have hf : Hid (rvRes s.data.toList a = _) := rvRes_none (hsc.out ▸ scan_big s i (i - a) n u h1 h3 hb)
              have hb' : (1000000000 : Int) < (n : Int) + (s[i].toNat : Int) % 128 * (u : Int) := by
                have e : (n : Int) + (s[i].toNat : Int) % 128 * (u : Int) = ((n + s[i].toNat % 128 * u : Nat) : Int) := by simp
                rw [e]; omega
              clear hu hsc hb
              by_cases h0 : s[i].toNat = 0
              · have hzb : ((s[i].toNat : Int) == 0) = true := beq_iff_eq.2 (by omega)
                have hai : ¬ a < i := fun h => hz ⟨h0, h⟩
                clear hz h0
                go_wp2
                go_ret3
                exact ⟨by rw [hf.out]; rfl, rfl⟩
              · have hzb : ((s[i].toNat : Int) == 0) = false := beq_eq_false_iff_ne.2 (by omega)
                clear hz
                go_wp2
                go_ret3
                exact ⟨by rw [hf.out]; rfl, rfl⟩
            · have hf : Hid (rvRes s.data.toList a = _) := rvRes_some (hsc.out ▸ scan_yes s i (i - a) n u h1 (by omega) h3 (by omega) hb)
              have hb' : (n : Int) + (s[i].toNat : Int) % 128 * (u : Int) ≤ 1000000000 := by
                have e : (n : Int) + (s[i].toNat : Int) % 128 * (u : Int) = ((n + s[i].toNat % 128 * u : Nat) : Int) := by simp
                rw [e]; omega
              have he : a + (i - a + 1) = i + 1 := by omega
              rw [he] at hf
              clear hu hsc hb he
              by_cases h0 : s[i].toNat = 0
              · have hzb : ((s[i].toNat : Int) == 0) = true := beq_iff_eq.2 (by omega)
                have hai : ¬ a < i := fun h => hz ⟨h0, h⟩
                clear hz h0
                go_wp2
                go_ret3
                exact ⟨by rw [hf.out]; simp, rfl⟩
              · have hzb : ((s[i].toNat : Int) == 0) = false := beq_eq_false_iff_ne.2 (by omega)
                clear hz
                go_wp2
                go_ret3
                exact ⟨by rw [hf.out]; simp, rfl⟩
      · have hf : Hid (rvRes s.data.toList a = _) := rvRes_none (hsc.out ▸ scan_five _ (i - a) n u (by omega))
        clear hu hsc
        go_wp2
        go_ret3
        exact ⟨by rw [hf.out]; rfl, rfl⟩
    · have hf : Hid (rvRes s.data.toList a = _) := rvRes_none (hsc.out ▸ scan_end s i (i - a) n u h1)
      clear hu hsc
      go_wp2
      go_ret3
      exact ⟨by rw [hf.out]; rfl, rfl⟩
end Go.Proofs.Ytdabglemkpokpaj
