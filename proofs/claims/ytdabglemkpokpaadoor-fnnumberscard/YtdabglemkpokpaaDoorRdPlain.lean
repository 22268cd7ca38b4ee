/- Reading decimal figures: what a round does, as plain facts. -/
import Derived.Test.YtdabglemkpokpaaDoorDecPlain
namespace Go.Proofs.YtdabglemkpokpaaDoor

def rdOkB (l : List UInt8) : Bool := !l.isEmpty && (l.head? != some 48 || l.length == 1) && l.all (fun c => decide (48 ≤ c.toNat) && decide (c.toNat ≤ 57)) && decide (numL l ≤ 1000000000)

theorem rdOkB_iff (l : List UInt8) : rdOkB l = true ↔ rdOk l := by
  unfold rdOkB rdOk neat digit
  simp only [Bool.and_eq_true, Bool.not_eq_true', List.isEmpty_eq_false_iff, Bool.or_eq_true, bne_iff_ne, beq_iff_eq, List.all_eq_true, decide_eq_true_eq]
  constructor
  · rintro ⟨⟨⟨h1, h2⟩, h3⟩, h4⟩
    exact ⟨⟨h1, fun e => h2.resolve_left (fun h => h e)⟩, h3, h4⟩
  · rintro ⟨⟨h1, h2⟩, h3, h4⟩
    refine ⟨⟨⟨h1, ?_⟩, h3⟩, h4⟩
    by_cases e : l.head? = some 48
    · exact Or.inr (h2 e)
    · exact Or.inl e

def rdRes (l : List UInt8) : Value := if rdOkB l then .tuple #[.int .i64 (numL l : Int), .bool true] else rdNo

theorem rdRes_yes {l : List UInt8} (h : rdOk l) : rdRes l = .tuple #[.int .i64 (numL l : Int), .bool true] := if_pos ((rdOkB_iff l).2 h)
theorem rdRes_no {l : List UInt8} (h : ¬ rdOk l) : rdRes l = .tuple #[.int .i64 0, .bool false] := if_neg fun e => h ((rdOkB_iff l).1 e)

theorem mem_at (s : ByteArray) (i : Nat) (h : i < s.size) : s[i] ∈ s.data.toList := by
  show s.data[i] ∈ s.data.toList
  simp

theorem split_at (s : ByteArray) (i : Nat) : s.data.toList = s.data.toList.take i ++ s.data.toList.drop i := (List.take_append_drop i _).symm

theorem len_take (s : ByteArray) (i : Nat) (h : i ≤ s.size) : (s.data.toList.take i).length = i := by
  have hl : s.data.toList.length = s.size := by rw [Array.length_toList]; rfl
  rw [List.length_take]; omega

/-- what has been read so far: figures alone -/
def Figs (s : ByteArray) (i : Nat) : Prop := ∀ c ∈ s.data.toList.take i, digit c
theorem Figs.zero (s : ByteArray) : Figs s 0 := fun c h => by simp at h
theorem Figs.more {s : ByteArray} {i : Nat} (h : Figs s i) (hi : i < s.size) (hd : 48 ≤ s[i].toNat ∧ s[i].toNat ≤ 57) : Figs s (i + 1) := by
  intro c hc
  rw [take_snoc s i hi] at hc
  rcases List.mem_append.1 hc with hc | hc
  · exact h c hc
  · simp at hc; subst hc; exact hd
theorem num_more {s : ByteArray} {i : Nat} (hi : i < s.size) : numL (s.data.toList.take (i + 1)) = 10 * numL (s.data.toList.take i) + (s[i].toNat - 48) := by
  rw [take_snoc s i hi, numL_snoc]
theorem num_le {s : ByteArray} {i : Nat} (h : Figs s i) (hi : i ≤ s.size) (k : Nat) (hk : i ≤ k) : numL (s.data.toList.take i) < 10 ^ k := by
  have h1 := numL_lt _ h
  rw [len_take s i hi] at h1
  exact Nat.lt_of_lt_of_le h1 (Nat.pow_le_pow_right (by omega) hk)

theorem no_digit (s : ByteArray) (i : Nat) (hi : i < s.size) (h : ¬ (48 ≤ s[i].toNat ∧ s[i].toNat ≤ 57)) : ¬ rdOk s.data.toList :=
  fun hr => h (hr.2.1 _ (mem_at s i hi))
theorem no_big (s : ByteArray) (i : Nat) (h : 1000000000 < numL (s.data.toList.take i)) : ¬ rdOk s.data.toList := by
  intro hr
  have h1 := numL_pre (s.data.toList.take i) (s.data.toList.drop i)
  rw [← split_at] at h1
  have := hr.2.2
  omega
theorem head_at (s : ByteArray) (h : 0 < s.size) : s.data.toList.head? = some s[0] := by
  have hl : s.data.toList.length = s.size := by rw [Array.length_toList]; rfl
  rw [List.head?_eq_getElem?, List.getElem?_eq_getElem (by omega)]; rfl
theorem no_nought (s : ByteArray) (h : 1 < s.size) (h0 : s[0].toNat = 48) : ¬ rdOk s.data.toList := by
  intro hr
  have hl : s.data.toList.length = s.size := by rw [Array.length_toList]; rfl
  have := hr.1.2 (by rw [head_at s (by omega)]; congr 1; exact UInt8.toNat_inj.1 (by simpa using h0))
  omega
theorem neat_at (s : ByteArray) (h : 0 < s.size) (h0 : s[0].toNat = 48 → s.size = 1) : neat s.data.toList := by
  have hl : s.data.toList.length = s.size := by rw [Array.length_toList]; rfl
  refine ⟨fun e => by rw [e] at hl; simp at hl; omega, fun e => ?_⟩
  rw [head_at s h] at e
  have e := Option.some.inj e
  rw [hl]
  exact h0 (by rw [e]; rfl)
theorem no_empty (s : ByteArray) (h : ¬ 0 < s.size) : ¬ rdOk s.data.toList := by
  intro hr
  have hl : s.data.toList.length = s.size := by rw [Array.length_toList]; rfl
  exact hr.1.1 (List.length_eq_zero_iff.1 (by omega))
theorem no_long (s : ByteArray) (h : 10 < s.size) : ¬ rdOk s.data.toList := by
  intro hr
  have hl : s.data.toList.length = s.size := by rw [Array.length_toList]; rfl
  have := rdOk_len _ hr
  omega
end Go.Proofs.YtdabglemkpokpaaDoor
