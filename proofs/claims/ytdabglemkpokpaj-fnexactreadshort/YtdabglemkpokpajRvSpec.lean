/- The specification's ReadVar reads what rvScan reads. -/
import Derived.Test.YtdabglemkpokpajRvImpl
import Derived.Test.YtdabglemkpokpajVarB
import Derived.BigQuiet
import Derived.Lib.Strings
import Derived.Test.YtdabglemkpokpajRegBelow
namespace Go.Proofs.Ytdabglemkpokpaj
open Go.RowKit Go.BigFrame

theorem pre_len {s : ByteArray} {a i : Nat} {p : List UInt8} (h1 : i < s.size) (hi0 : a ≤ i) (hp : p = (s.data.toList.drop a).take (i - a)) : p.length = i - a := by
  rw [hp]
  have hl : s.data.toList.length = s.size := by rw [Array.length_toList]; rfl
  rw [List.length_take, List.length_drop, hl]; omega

theorem take_more (s : ByteArray) (a i : Nat) (h1 : i < s.size) (hi0 : a ≤ i) : (s.data.toList.drop a).take (i + 1 - a) = (s.data.toList.drop a).take (i - a) ++ [s[i]] := by
  have hl : s.data.toList.length = s.size := by rw [Array.length_toList]; rfl
  rw [show i + 1 - a = (i - a) + 1 by omega, List.take_succ_eq_append_getElem (by rw [List.length_drop, hl]; omega), List.getElem_drop]
  congr 2
  show s.data.toList[a + (i - a)] = s[i]
  simp only [show a + (i - a) = i by omega]
  rfl

theorem pre_more (s : ByteArray) (a i n u : Nat) (p : List UInt8) (h1 : i < s.size) (hi0 : a ≤ i) (h3 : 127 < s[i].toNat) (hu : u = 128 ^ (i - a))
    (hp : n = dec p ∧ p = (s.data.toList.drop a).take (i - a) ∧ ∀ b ∈ p, 127 < b.toNat) :
    n + s[i].toNat % 128 * u = dec (p ++ [s[i]]) ∧ p ++ [s[i]] = (s.data.toList.drop a).take (i + 1 - a) ∧ ∀ b ∈ p ++ [s[i]], 127 < b.toNat := by
  obtain ⟨hn, hp1, hp2⟩ := hp
  refine ⟨?_, ?_, ?_⟩
  · rw [dec_snoc, pre_len h1 hi0 hp1, hn, hu]
  · rw [take_more s a i h1 hi0, hp1]
  · intro b hb
    rcases List.mem_append.1 hb with hb | hb
    · exact hp2 b hb
    · simp at hb; subst hb; exact h3

theorem pre_test (s : ByteArray) (a i n u : Nat) (p : List UInt8) (h1 : i < s.size) (hi0 : a ≤ i) (h3 : ¬ 127 < s[i].toNat) (hu : u = 128 ^ (i - a))
    (hp : n = dec p ∧ p = (s.data.toList.drop a).take (i - a) ∧ ∀ b ∈ p, 127 < b.toNat) :
    (varB (n + s[i].toNat % 128 * u) == (s.extract a (i + 1)).toList) = decide (¬ (s[i].toNat = 0 ∧ 0 < i - a)) := by
  obtain ⟨hn, hp1, hp2⟩ := hp
  have hl := pre_len h1 hi0 hp1
  have e : (s.extract a (i + 1)).toList = p ++ [s[i]] := by
    rw [Lib.toList_data, Lib.extract_data, take_more s a i h1 hi0, hp1]
  have e2 : n + s[i].toNat % 128 * u = dec (p ++ [s[i]]) := by rw [dec_snoc, hl, hn, hu]
  rw [e, e2]
  by_cases hz : s[i].toNat = 0 ∧ 0 < i - a
  · have hne : varB (dec (p ++ [s[i]])) ≠ p ++ [s[i]] := varB_long _ p _ hz.1 (by intro h; rw [h] at hl; simp at hl; omega)
    simp [hz, beq_eq_false_iff_ne.2 hne]
  · have he : varB (dec (p ++ [s[i]])) = p ++ [s[i]] := varB_dec p _ hp2 (by omega) (by
      by_cases h0 : s[i].toNat = 0
      · left
        have : i - a = 0 := by omega
        rw [this] at hl
        exact List.length_eq_zero_iff.1 hl
      · exact Or.inr h0)
    rw [he]
    simp only [beq_self_eq_true]
    exact (decide_eq_true hz).symm

theorem specRv_out (s : ByteArray) (a : Int) (w : World) (_hs : s.size ≤ 1048576) (h : a < 0 ∨ (s.size : Int) < a) :
    Calls Try.prog 8 #[.string s, .int .i64 a] w fun e w' => e = .returned (.tuple #[.int .i64 0, .int .i64 0, .bool false]) ∧ w' = w := by
  go_enter Try.func8, Try.ntmps8
  go_wp2_with (go_at_call 18; refine (in_no _ _ _ _ h).mono ?_; rintro e w' ⟨rfl, rfl⟩)
  go_ret3
  exact ⟨rfl, rfl⟩

set_option maxRecDepth 100000 in
set_option maxHeartbeats 1000000 in
theorem specRv_in (s : ByteArray) (a : Nat) (w : World) (hs : s.size ≤ 1048576) (ha : a ≤ s.size) :
    Calls Try.prog 8 #[.string s, .int .i64 a] w fun e w' => e = .returned (rvRes s.data.toList a) ∧ Below w.heap.size w w' := by
  go_enter Try.func8, Try.ntmps8
  go_wp2_with (go_at_call 18; refine (in_yes _ _ _ _ (by omega) (by omega)).mono ?_; rintro e w' ⟨rfl, rfl⟩)
  go_loop [7, 8, 9] (fun vn vu vi => ∃ (i n u : Nat) (p : List UInt8), a ≤ i ∧ i ≤ s.size ∧ i ≤ a + 5 ∧ vi = .int .i64 i ∧ vn = .int .i64 n ∧ vu = .int .i64 u ∧ Hid (u = 128 ^ (i - a)) ∧ n < u ∧
      Hid (n = dec p ∧ p = (s.data.toList.drop a).take (i - a) ∧ ∀ b ∈ p, 127 < b.toNat) ∧ 
      Hid (rvScan (s.data.toList.drop i) (i - a) n u = rvScan (s.data.toList.drop a) 0 0 1)) (fun _ _ vi => s.size - (intOf vi).toNat)
  case atStart => exact ⟨a, 0, 1, [], Nat.le_refl _, ha, by omega, rfl, rfl, rfl, by show _ = _; simp, by omega, ⟨rfl, by simp, by simp⟩, by show _ = _; simp⟩
  case round =>
    obtain ⟨i, n, u, p, hi0, hi1, hi5, rfl, rfl, rfl, hu, hn, hp, hsc⟩ := hrel
    by_cases h1 : i < s.size
    · by_cases h5 : i < a + 5
      · have hub : u ≤ 268435456 := by rw [hu.out]; exact pow_lt5 _ (by omega)
        obtain ⟨hf0, hf1⟩ := fig_le s[i] u hub
        have hc8 := UInt8.toNat_lt s[i]
        by_cases h3 : 127 < s[i].toNat
        · have hm : Hid (u * 128 = 128 ^ (i + 1 - a)) := by
            show _ = _
            rw [hu.out, show i + 1 - a = (i - a) + 1 by omega, Nat.pow_succ]
          have hq : Hid (rvScan (s.data.toList.drop (i + 1)) (i + 1 - a) (n + s[i].toNat % 128 * u) (u * 128) = rvScan (s.data.toList.drop a) 0 0 1) := by
            show _ = _
            rw [← hsc.out, scan_more s i (i - a) n u h1 (by omega) h3, show i + 1 - a = (i - a) + 1 by omega]
          have hlt : n + s[i].toNat % 128 * u < u * 128 := by
            have : s[i].toNat % 128 * u ≤ 127 * u := Nat.mul_le_mul_right _ (by omega)
            omega
          have hp' : Hid (n + s[i].toNat % 128 * u = dec (p ++ [s[i]]) ∧ p ++ [s[i]] = (s.data.toList.drop a).take (i + 1 - a) ∧ ∀ b ∈ p ++ [s[i]], 127 < b.toNat) := by
            exact pre_more s a i n u p h1 hi0 h3 hu.out hp.out
          clear hu hsc hp
          go_wp2
          go_round
          case rel => exact ⟨i + 1, n + s[i].toNat % 128 * u, u * 128, p ++ [s[i]], by omega, by omega, by omega, by go_num, by simp, by simp, hm, hlt, hp', hq⟩
          case measure => simp [intOf]; omega
        · by_cases hb : 1000000000 < n + s[i].toNat % 128 * u
          · have hf : Hid (rvRes s.data.toList a = _) := rvRes_none (hsc.out ▸ scan_big s i (i - a) n u h1 h3 hb)
            have hb' : (1000000000 : Int) < (n : Int) + (s[i].toNat : Int) % 128 * (u : Int) := by
              have e : (n : Int) + (s[i].toNat : Int) % 128 * (u : Int) = ((n + s[i].toNat % 128 * u : Nat) : Int) := by simp
              rw [e]; omega
            have hbb : decide ((1000000000 : Int) < (n : Int) + (s[i].toNat : Int) % 128 * (u : Int)) = true := decide_eq_true hb'
            clear hu hsc hb hp
            go_wp2
            go_quiet (fail)
            go_wp2
            go_ret3
            exact ⟨by rw [hf.out]; rfl, ⟨rfl, rfl, rfl, Nat.le_refl _, fun _ _ => rfl⟩⟩
          · have hb' : (n : Int) + (s[i].toNat : Int) % 128 * (u : Int) ≤ 1000000000 := by
              have e : (n : Int) + (s[i].toNat : Int) % 128 * (u : Int) = ((n + s[i].toNat % 128 * u : Nat) : Int) := by simp
              rw [e]; omega
            have hbb : decide ((1000000000 : Int) < (n : Int) + (s[i].toNat : Int) % 128 * (u : Int)) = false := decide_eq_false (by omega)
            have ht : Hid (_ = _) := pre_test s a i n u p h1 hi0 h3 hu.out hp.out
            have hno : Hid (s[i].toNat = 0 ∧ 0 < i - a → rvRes s.data.toList a = _) := fun hz => rvRes_none (hsc.out ▸ scan_zero s i (i - a) n u h1 hz.1 hz.2)
            have hyes : Hid (¬ (s[i].toNat = 0 ∧ 0 < i - a) → rvRes s.data.toList a = _) := fun hz => rvRes_some (hsc.out ▸ scan_yes s i (i - a) n u h1 (by omega) h3 hz hb)
            clear hu hsc hb hp
            go_wp2
            refine wp_region_below (by kernel_rfl) (by kernel_rfl) ?_
            repeat (first | go_big_quiet_skip | (go_big_quiet_want; go_big_quiet_op; first | go_big_quiet_on | (refine ⟨_, fun _ _ => rfl, ?_⟩; go_big_quiet_on) | (apply Exists.intro; refine ⟨fun w' hw' => ?_, ?_⟩; (refine (l01Var_any _ _ (by omega) (by omega)).mono ?_; rintro e w'' ⟨rfl, hb1⟩; exact ⟨rfl, hw'.trans (hb1.mono hw'.size)⟩); go_big_quiet_on)))
            refine wpQuiet_nil ?_
            intro w1 hw1
            go_wp2
            · have h : (!varB (n + s[i].toNat % 128 * u) == (s.extract a (i + 1)).toList) = true := by assumption
              rw [ht.out] at h
              have hz : s[i].toNat = 0 ∧ 0 < i - a := by simp at h; omega
              have hf := hno.out hz
              go_ret3
              exact ⟨by rw [hf]; rfl, hw1⟩
            · have h : (!varB (n + s[i].toNat % 128 * u) == (s.extract a (i + 1)).toList) = false := by assumption
              rw [ht.out] at h
              have hz : ¬ (s[i].toNat = 0 ∧ 0 < i - a) := by simp at h; omega
              have hf := hyes.out hz
              have he : a + (i - a + 1) = i + 1 := by omega
              rw [he] at hf
              go_ret3
              exact ⟨by rw [hf]; simp, hw1⟩
      · have hf : Hid (rvRes s.data.toList a = _) := rvRes_none (hsc.out ▸ scan_five _ (i - a) n u (by omega))
        clear hu hsc hp
        go_wp2
        go_ret3
        exact ⟨by rw [hf.out]; rfl, Below.refl _ _⟩
    · have hf : Hid (rvRes s.data.toList a = _) := rvRes_none (hsc.out ▸ scan_end s i (i - a) n u h1)
      clear hu hsc hp
      go_wp2
      go_ret3
      exact ⟨by rw [hf.out]; rfl, Below.refl _ _⟩
end Go.Proofs.Ytdabglemkpokpaj
