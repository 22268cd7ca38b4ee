/- The parts of a plain line, as plain functions. -/
import Derived.Test.YtdabglemkpokpakDoorHexPlain
import Derived.Lib.Fields
namespace Go.Proofs.YtdabglemkpokpakDoor

def plainAt (s : ByteArray) (i : Nat) : Prop := ∀ j (h : j < s.size), j < i → 32 ≤ s[j].toNat ∧ s[j].toNat ≤ 126

theorem isSp_plain (c : UInt8) (h : 32 ≤ c.toNat) : Lib.isSp c = decide (c.toNat = 32) := by
  have ne : ∀ k : UInt8, k.toNat < 32 → (c == k) = false := fun k hk => by
    rw [beq_eq_false_iff_ne]
    intro e
    rw [e] at h
    omega
  unfold Lib.isSp
  rw [ne 9 (by decide), ne 10 (by decide), ne 11 (by decide), ne 12 (by decide), ne 13 (by decide)]
  simp only [Bool.false_or]
  rw [Bool.eq_iff_iff, beq_iff_eq, decide_eq_true_eq]
  constructor
  · intro e; rw [e]; rfl
  · intro e; exact UInt8.toNat_inj.1 (by rw [e]; rfl)

theorem fieldsGo_le : ∀ (l cur : List UInt8), ∀ x ∈ Lib.fieldsGo cur l, x.length ≤ cur.length + l.length
  | [], cur, x, h => by
    rw [Lib.fieldsGo] at h
    split at h
    · cases h
    · simp at h; subst h; simp
  | b :: l, cur, x, h => by
    rw [Lib.fieldsGo] at h
    split at h
    · split at h
      · have := fieldsGo_le l [] x h; simp only [List.length_cons, List.length_nil] at *; omega
      · rcases List.mem_cons.1 h with rfl | h
        · simp
        · have := fieldsGo_le l [] x h; simp only [List.length_cons, List.length_nil] at *; omega
    · have := fieldsGo_le l (cur ++ [b]) x h; simp only [List.length_cons, List.length_append, List.length_nil] at *; omega

theorem fieldsGo_num : ∀ (l cur : List UInt8), (Lib.fieldsGo cur l).length ≤ 1 + l.length
  | [], cur => by rw [Lib.fieldsGo]; split <;> simp
  | b :: l, cur => by
    rw [Lib.fieldsGo]
    split
    · split
      · have := fieldsGo_num l []; simp only [List.length_cons]; omega
      · have := fieldsGo_num l []; simp only [List.length_cons]; omega
    · have := fieldsGo_num l (cur ++ [b]); simp only [List.length_cons]; omega

theorem go_on (s : ByteArray) (i : Nat) (cur : List UInt8) (hi : i < s.size) (hp : 32 ≤ s[i].toNat) (h : s[i].toNat ≠ 32) :
    Lib.fieldsGo cur (s.data.toList.drop i) = Lib.fieldsGo (cur ++ [s[i]]) (s.data.toList.drop (i + 1)) := by
  have e : s.data.toList.drop i = s[i] :: s.data.toList.drop (i + 1) := by
    rw [List.drop_eq_getElem_cons (by simpa using hi)]; rfl
  rw [e, Lib.fieldsGo, isSp_plain _ hp]
  simp [h]
theorem go_cut1 (s : ByteArray) (i : Nat) (cur : List UInt8) (hi : i < s.size) (h : s[i].toNat = 32) (hc : cur ≠ []) :
    Lib.fieldsGo cur (s.data.toList.drop i) = cur :: Lib.fieldsGo [] (s.data.toList.drop (i + 1)) := by
  have e : s.data.toList.drop i = s[i] :: s.data.toList.drop (i + 1) := by
    rw [List.drop_eq_getElem_cons (by simpa using hi)]; rfl
  rw [e, Lib.fieldsGo, isSp_plain _ (by omega)]
  simp [h, hc]
theorem go_cut0 (s : ByteArray) (i : Nat) (hi : i < s.size) (h : s[i].toNat = 32) :
    Lib.fieldsGo [] (s.data.toList.drop i) = Lib.fieldsGo [] (s.data.toList.drop (i + 1)) := by
  have e : s.data.toList.drop i = s[i] :: s.data.toList.drop (i + 1) := by
    rw [List.drop_eq_getElem_cons (by simpa using hi)]; rfl
  rw [e, Lib.fieldsGo, isSp_plain _ (by omega)]
  simp [h]
theorem go_end (s : ByteArray) (cur : List UInt8) : Lib.fieldsGo cur (s.data.toList.drop s.size) = if cur.isEmpty then [] else [cur] := by
  have hl : s.data.toList.length = s.size := by rw [Array.length_toList]; rfl
  rw [List.drop_eq_nil_of_le (by omega), Lib.fieldsGo]

/-- the bytes from b up to i -/
def mid (s : ByteArray) (b i : Nat) : List UInt8 := (s.data.toList.drop b).take (i - b)
theorem mid_same (s : ByteArray) (i : Nat) : mid s i i = [] := by simp [mid]
theorem mid_len (s : ByteArray) (b i : Nat) (h : i ≤ s.size) : (mid s b i).length = i - b := by
  have hl : s.data.toList.length = s.size := by rw [Array.length_toList]; rfl
  rw [mid, List.length_take, List.length_drop, hl]; omega
theorem mid_more (s : ByteArray) (b i : Nat) (hb : b ≤ i) (hi : i < s.size) : mid s b (i + 1) = mid s b i ++ [s[i]] := by
  have hl : s.data.toList.length = s.size := by rw [Array.length_toList]; rfl
  unfold mid
  rw [show i + 1 - b = (i - b) + 1 by omega, List.take_succ_eq_append_getElem (by rw [List.length_drop, hl]; omega), List.getElem_drop]
  congr 2
  show s.data.toList[b + (i - b)] = s[i]
  simp only [show b + (i - b) = i by omega]
  rfl

def ptOk (s : ByteArray) : Bool := decide (s.size ≤ 600) && (s.data.toList.all fun c => decide (32 ≤ c.toNat) && decide (c.toNat ≤ 126)) && decide ((Lib.fields s.data.toList).length ≤ 10)
def ptRes (s : ByteArray) : List (List UInt8) := if ptOk s then Lib.fields s.data.toList else []

theorem plain_iff (s : ByteArray) : (s.data.toList.all fun c => decide (32 ≤ c.toNat) && decide (c.toNat ≤ 126)) = true ↔ plainAt s s.size := by
  rw [List.all_eq_true]
  constructor
  · intro h j hj _
    have := h s[j] (by show s.data[j] ∈ s.data.toList; simp)
    simpa using this
  · intro h c hc
    obtain ⟨j, hj, rfl⟩ := List.mem_iff_getElem.1 hc
    have hl : s.data.toList.length = s.size := by rw [Array.length_toList]; rfl
    have this : 32 ≤ s.data[j].toNat ∧ s.data[j].toNat ≤ 126 := h j (by omega) (by omega)
    simpa using this

theorem ptOk_long {s : ByteArray} (h : 600 < s.size) : ptOk s = false := by
  unfold ptOk; rw [decide_eq_false (by omega)]; rfl
theorem ptOk_byte {s : ByteArray} (i : Nat) (hi : i < s.size) (h : ¬ (32 ≤ s[i].toNat ∧ s[i].toNat ≤ 126)) : ptOk s = false := by
  unfold ptOk
  have : (s.data.toList.all fun c => decide (32 ≤ c.toNat) && decide (c.toNat ≤ 126)) = false := by
    rw [← Bool.not_eq_true]
    intro e
    exact h ((plain_iff s).1 e i hi hi)
  rw [this]; simp
theorem ptOk_many {s : ByteArray} (h : 10 < (Lib.fields s.data.toList).length) : ptOk s = false := by
  unfold ptOk; rw [decide_eq_false (show ¬ (Lib.fields s.data.toList).length ≤ 10 by omega)]; simp
theorem ptOk_yes {s : ByteArray} (h1 : s.size ≤ 600) (h2 : plainAt s s.size) (h3 : (Lib.fields s.data.toList).length ≤ 10) : ptOk s = true := by
  unfold ptOk; rw [decide_eq_true h1, (plain_iff s).2 h2, decide_eq_true h3]; rfl
theorem ptRes_no {s : ByteArray} (h : ptOk s = false) : ptRes s = [] := by unfold ptRes; rw [h]; rfl
theorem ptRes_yes {s : ByteArray} (h : ptOk s = true) : ptRes s = Lib.fields s.data.toList := by unfold ptRes; rw [h]; rfl
theorem ptRes_len (s : ByteArray) : (ptRes s).length ≤ 10 := by
  cases h : ptOk s
  · rw [ptRes_no h]; simp
  · rw [ptRes_yes h]
    unfold ptOk at h
    simp at h
    omega
end Go.Proofs.YtdabglemkpokpakDoor
