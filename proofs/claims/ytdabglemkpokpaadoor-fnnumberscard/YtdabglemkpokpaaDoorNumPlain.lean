/- What is written is read back: numbers in bytes and in figures, texts, bytes in figures of sixteen. -/
import Derived.Test.YtdabglemkpokpaaDoorRsI
import Derived.Test.YtdabglemkpokpaaDoorRdPlain
import Derived.Test.YtdabglemkpokpaaDoorUhPlain
namespace Go.Proofs.YtdabglemkpokpaaDoor

theorem varB_len5 (j : Nat) : ∀ m, m < 128 ^ (j + 1) → (varB m).length ≤ j + 1 := by
  induction j with
  | zero => intro m hm; rw [varB_last (by omega)]; simp
  | succ j ih =>
    intro m hm
    by_cases h : 127 < m
    · rw [varB_more h, List.length_cons]
      have := ih (m / 128) (by rw [Nat.div_lt_iff_lt_mul (by omega)]; rw [Nat.pow_succ] at hm; exact hm)
      omega
    · rw [varB_last h]; simp

theorem varB_pos (m : Nat) : 0 < (varB m).length := by
  by_cases h : 127 < m
  · rw [varB_more h]; simp
  · rw [varB_last h]; simp

theorem scan_varB (m : Nat) : ∀ (k a u : Nat) (rest : List UInt8), k + (varB m).length ≤ 5 → (0 < k → 0 < m) → a + m * u ≤ 1000000000 →
    rvScan (varB m ++ rest) k a u = some (a + m * u, k + (varB m).length) := by
  induction m using Nat.strongRecOn with
  | ind m ih =>
    intro k a u rest hk h0 hle
    by_cases h : 127 < m
    · have hc : (UInt8.ofNat (m % 128 + 128)).toNat = m % 128 + 128 := by rw [UInt8.toNat_ofNat']; omega
      have hp := varB_pos (m / 128)
      rw [varB_more h, List.length_cons] at hk
      rw [varB_more h, List.cons_append, rvScan, if_neg (by omega), hc, if_pos (by omega), List.length_cons]
      have e : (m % 128 + 128) % 128 * u + m / 128 * (u * 128) = m * u := by
        have h1 : (m % 128 + 128) % 128 = m % 128 := by omega
        have h2 : m = m % 128 + m / 128 * 128 := by omega
        rw [h1]
        conv => rhs; rw [h2]
        rw [Nat.add_mul, Nat.mul_assoc, Nat.mul_comm u 128]
      rw [ih (m / 128) (by omega) (k + 1) _ _ rest (by omega) (by omega) (by omega)]
      congr 2
      · omega
      · omega
    · have hc : (UInt8.ofNat m).toNat = m := by rw [UInt8.toNat_ofNat']; omega
      rw [varB_last h] at hk ⊢
      simp only [List.length_cons, List.length_nil] at hk ⊢
      have hm : m % 128 = m := by omega
      rw [List.cons_append, rvScan, hc, if_neg (by omega), if_neg h, if_neg (by omega), hm, if_neg (by omega)]

theorem rv_back (n : Nat) (hn : n ≤ 1000000000) : rvRes (120 :: (varB n ++ [121])) 1 = .tuple #[.int .i64 (n : Int), .int .i64 ((1 + (varB n).length : Nat) : Int), .bool true] := by
  have hl := varB_len5 4 n (by omega)
  have := scan_varB n 0 0 1 [121] (by omega) (by omega) (by omega)
  rw [Nat.zero_add, Nat.mul_one, Nat.zero_add] at this
  exact rvRes_some this

theorem decR_digit (n : Nat) : (∀ c ∈ decR n, digit c) ∧ numL (decR n) = n := by
  induction n using Nat.strongRecOn with
  | ind n ih =>
    by_cases h : 0 < n
    · rw [decR_pos h, numL_snoc]
      obtain ⟨h1, h2⟩ := ih (n / 10) (by omega)
      have hf : (fig (n % 10)).toNat = 48 + n % 10 := by rw [fig, if_pos (by omega), UInt8.toNat_ofNat']; omega
      refine ⟨fun c hc => ?_, ?_⟩
      · rcases List.mem_append.1 hc with hc | hc
        · exact h1 c hc
        · simp at hc; subst hc; unfold digit; omega
      · rw [h2, hf]; omega
    · obtain rfl : n = 0 := by omega
      rw [decR_zero]
      exact ⟨by simp, rfl⟩

theorem rd_back (n : Nat) (hn : n ≤ 1000000000) : rdRes (decI (n : Int)) = .tuple #[.int .i64 (n : Int), .bool true] := by
  have e : decI (n : Int) = decB n := by unfold decI; rw [if_neg (by omega)]; rfl
  have hb : (∀ c ∈ decB n, digit c) ∧ numL (decB n) = n := by
    unfold decB
    split
    · rename_i h
      subst h
      exact ⟨by intro c hc; simp at hc; subst hc; unfold digit; decide, rfl⟩
    · exact decR_digit n
  rw [e]
  have := rdRes_yes (l := decB n) ⟨decB_neat n, hb.1, by rw [hb.2]; exact hn⟩
  rw [hb.2] at this
  exact this

theorem hv_fig (x : Nat) (h : x < 16) : hv (fig x) = some x := by
  by_cases h1 : x < 10
  · have e : (fig x).toNat = 48 + x := by rw [fig, if_pos h1, UInt8.toNat_ofNat']; omega
    unfold hv; rw [e, if_pos (by omega)]; congr 1; omega
  · have e : (fig x).toNat = 87 + x := by rw [fig, if_neg h1, UInt8.toNat_ofNat']; omega
    unfold hv; rw [e, if_neg (by omega), if_pos (by omega)]; congr 1; omega

theorem uh_back (l : List UInt8) : unhexL (hexL l) = some l := by
  induction l with
  | nil => rfl
  | cons c r ih =>
    have hc := c.toNat_lt
    have e : hexL (c :: r) = fig (c.toNat / 16) :: fig (c.toNat % 16) :: hexL r := rfl
    rw [e, unhexL_yes (hv_fig _ (by omega)) (hv_fig _ (by omega)), ih]
    simp only [Option.map_some]
    congr 2
    rw [← UInt8.toNat_inj, UInt8.toNat_ofNat']
    omega

theorem rs_back (t : ByteArray) (ht : t.size ≤ 20000) : rsRes (⟨(varB t.size).toArray⟩ ++ t) 0 = .tuple #[.string t, .int .i64 (((varB t.size).length + t.size : Nat) : Int), .bool true] := by
  have hl := varB_len5 4 t.size (by omega)
  have hd : ((⟨(varB t.size).toArray⟩ : ByteArray) ++ t).data.toList = varB t.size ++ t.data.toList := by rw [ByteArray.data_append, Array.toList_append]
  have hsz : ((⟨(varB t.size).toArray⟩ : ByteArray) ++ t).size = (varB t.size).length + t.size := by rw [ByteArray.size_append, size_mk]
  have hsc := scan_varB t.size 0 0 1 t.data.toList (by omega) (by omega) (by omega)
  rw [Nat.zero_add, Nat.mul_one, Nat.zero_add] at hsc
  have hx : ((⟨(varB t.size).toArray⟩ : ByteArray) ++ t).extract (0 + (varB t.size).length) (0 + (varB t.size).length + t.size) = t := by
    apply ByteArray.ext
    apply Array.toList_inj.1
    rw [Lib.extract_data, hd, Nat.zero_add, List.drop_left, Nat.add_sub_cancel_left]
    have : t.data.toList.length = t.size := by rw [Array.length_toList]; rfl
    rw [← this, List.take_length]
  unfold rsRes
  rw [List.drop_zero, hd, hsc]
  simp only
  rw [if_neg (by rw [hsz]; omega), hx, Nat.zero_add]
end Go.Proofs.YtdabglemkpokpaaDoor
