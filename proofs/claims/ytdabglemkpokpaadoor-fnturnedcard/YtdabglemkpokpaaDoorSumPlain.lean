/- The sums of the document as plain functions: one step of a bit, eight for a byte, the table of four steps, and that no two sums and no two bytes come to the same. -/
import Derived.WalkKit
import Derived.Laws.BitsAllLaws
namespace Go.Proofs.YtdabglemkpokpaaDoor

/-- one step: half of it, exclusive-or the number when it was odd -/
def h1 (x : Nat) : Nat := if x % 2 = 1 then x / 2 ^^^ 3558460437 else x / 2
def h4 (x : Nat) : Nat := h1 (h1 (h1 (h1 x)))
def sumB (s : Nat) (b : UInt8) : Nat := h4 (h4 (s ^^^ b.toNat))
def sumL : Nat → List UInt8 → Nat
  | s, [] => s
  | s, b :: r => sumL (sumB s b) r

theorem h1_odd {x : Nat} (h : x % 2 = 1) : h1 x = x / 2 ^^^ 3558460437 := if_pos h
theorem h1_even {x : Nat} (h : ¬ x % 2 = 1) : h1 x = x / 2 := if_neg h

theorem h1_lt {x : Nat} (h : x < 4294967296) : h1 x < 4294967296 := by
  unfold h1
  split
  · exact Nat.xor_lt_two_pow (n := 32) (by omega) (by omega)
  · omega
theorem h4_lt {x : Nat} (h : x < 4294967296) : h4 x < 4294967296 := h1_lt (h1_lt (h1_lt (h1_lt h)))

theorem xor_lt32 {a b : Nat} (ha : a < 4294967296) (hb : b < 4294967296) : a ^^^ b < 4294967296 := Nat.xor_lt_two_pow (n := 32) (by omega) (by omega)

theorem xor_byte_lt {s : Nat} (b : UInt8) (h : s < 4294967296) : s ^^^ b.toNat < 4294967296 := xor_lt32 h (by have := b.toNat_lt; omega)
theorem sumB_lt {s : Nat} (b : UInt8) (h : s < 4294967296) : sumB s b < 4294967296 := h4_lt (h4_lt (xor_byte_lt b h))
theorem sumL_lt (l : List UInt8) : ∀ {s : Nat}, s < 4294967296 → sumL s l < 4294967296 := by
  induction l with
  | nil => intro s h; exact h
  | cons b r ih => intro s h; exact ih (sumB_lt b h)

theorem sumL_append (l m : List UInt8) : ∀ (s : Nat), sumL s (l ++ m) = sumL (sumL s l) m := by
  induction l with
  | nil => intro s; rfl
  | cons b r ih => intro s; exact ih _

/- the step is linear -/
theorem h1_xor (x y : Nat) : h1 (x ^^^ y) = h1 x ^^^ h1 y := by
  have hm : (x ^^^ y) % 2 = (x + y) % 2 := by
    have := Nat.testBit_xor x y 0
    simp only [Nat.testBit_zero] at this
    rcases Nat.mod_two_eq_zero_or_one x with hx | hx <;> rcases Nat.mod_two_eq_zero_or_one y with hy | hy <;> rcases Nat.mod_two_eq_zero_or_one (x ^^^ y) with hz | hz <;> simp [hx, hy, hz] at this <;> omega
  have hd : (x ^^^ y) / 2 = x / 2 ^^^ y / 2 := Nat.xor_div_two
  unfold h1
  rw [hm, hd]
  by_cases hx : x % 2 = 1 <;> by_cases hy : y % 2 = 1
  · rw [if_neg (by omega), if_pos hx, if_pos hy, Nat.xor_comm (y / 2), ← Nat.xor_assoc, Nat.xor_assoc (x / 2), Nat.xor_self, Nat.xor_zero]
  · rw [if_pos (by omega), if_pos hx, if_neg hy, Nat.xor_assoc, Nat.xor_comm (y / 2), ← Nat.xor_assoc]
  · rw [if_pos (by omega), if_neg hx, if_pos hy, Nat.xor_assoc]
  · rw [if_neg (by omega), if_neg hx, if_neg hy]
theorem h4_xor (x y : Nat) : h4 (x ^^^ y) = h4 x ^^^ h4 y := by unfold h4; simp only [h1_xor]

theorem split16 (x : Nat) : x = (16 * (x / 16)) ^^^ (x % 16) := by
  apply Nat.eq_of_testBit_eq
  intro i
  rw [Nat.testBit_xor]
  have e1 : 16 * (x / 16) = (x >>> 4) <<< 4 := by rw [Nat.shiftRight_eq_div_pow, Nat.shiftLeft_eq]; omega
  have e2 : x % 16 = x % 2 ^ 4 := rfl
  rw [e1, e2, Nat.testBit_shiftLeft, Nat.testBit_shiftRight, Nat.testBit_mod_two_pow]
  by_cases h : i < 4
  · have : ¬ i ≥ 4 := by omega
    simp [h, this]
  · have h' : i ≥ 4 := by omega
    have : 4 + (i - 4) = i := by omega
    simp [h, h', this]

theorem h1_two (q : Nat) : h1 (2 * q) = q := by rw [h1_even (by omega)]; omega
theorem h4_sixteen (q : Nat) : h4 (16 * q) = q := by
  have e : 16 * q = 2 * (2 * (2 * (2 * q))) := by omega
  rw [e]; unfold h4; simp only [h1_two]

theorem h4_split (x : Nat) : h4 x = x / 16 ^^^ h4 (x % 16) := by
  conv => lhs; rw [split16 x]
  rw [h4_xor, h4_sixteen]

/- no two come to the same -/
theorem xor_cancel {a b c : Nat} (h : a ^^^ c = b ^^^ c) : a = b := by
  have := congrArg (· ^^^ c) h
  simpa [Nat.xor_assoc, Nat.xor_self] using this
theorem xor_cancel' {a b c : Nat} (h : c ^^^ a = c ^^^ b) : a = b := by
  rw [Nat.xor_comm c, Nat.xor_comm c] at h; exact xor_cancel h

theorem h1_inj {x y : Nat} (hx : x < 4294967296) (hy : y < 4294967296) (h : h1 x = h1 y) : x = y := by
  have clash : ∀ a b : Nat, a < 2147483648 → b < 2147483648 → a ^^^ 3558460437 = b → False := fun a b ha hb e => by
    have e2 : a ^^^ b = 3558460437 := by rw [← e, ← Nat.xor_assoc, Nat.xor_self, Nat.zero_xor]
    have : a ^^^ b < 2 ^ 31 := Nat.xor_lt_two_pow (by omega) (by omega)
    omega
  by_cases h1x : x % 2 = 1 <;> by_cases h1y : y % 2 = 1
  · rw [h1_odd h1x, h1_odd h1y] at h
    have := xor_cancel h
    omega
  · rw [h1_odd h1x, h1_even h1y] at h
    exact (clash _ _ (by omega) (by omega) h).elim
  · rw [h1_even h1x, h1_odd h1y] at h
    exact (clash _ _ (by omega) (by omega) h.symm).elim
  · rw [h1_even h1x, h1_even h1y] at h
    omega
theorem h4_inj {x y : Nat} (hx : x < 4294967296) (hy : y < 4294967296) (h : h4 x = h4 y) : x = y :=
  h1_inj hx hy (h1_inj (h1_lt hx) (h1_lt hy) (h1_inj (h1_lt (h1_lt hx)) (h1_lt (h1_lt hy)) (h1_inj (h1_lt (h1_lt (h1_lt hx))) (h1_lt (h1_lt (h1_lt hy))) h)))

theorem sumB_inj {s t : Nat} (b : UInt8) (hs : s < 4294967296) (ht : t < 4294967296) (h : sumB s b = sumB t b) : s = t :=
  xor_cancel (h4_inj (xor_byte_lt b hs) (xor_byte_lt b ht) (h4_inj (h4_lt (xor_byte_lt b hs)) (h4_lt (xor_byte_lt b ht)) h))
theorem sumB_byte {s : Nat} {b c : UInt8} (hs : s < 4294967296) (h : sumB s b = sumB s c) : b = c :=
  UInt8.toNat_inj.1 (xor_cancel' (h4_inj (xor_byte_lt b hs) (xor_byte_lt c hs) (h4_inj (h4_lt (xor_byte_lt b hs)) (h4_lt (xor_byte_lt c hs)) h)))
theorem sumL_inj (l : List UInt8) : ∀ {s t : Nat}, s < 4294967296 → t < 4294967296 → sumL s l = sumL t l → s = t := by
  induction l with
  | nil => intro s t _ _ h; exact h
  | cons b r ih => intro s t hs ht h; exact sumB_inj b hs ht (ih (sumB_lt b hs) (sumB_lt b ht) h)

/-- one byte turned, another sum -/
theorem sumL_set (l : List UInt8) : ∀ {s : Nat} (i : Nat) (c : UInt8) (hi : i < l.length), s < 4294967296 → sumL s (l.set i c) = sumL s l → c = l[i] := by
  induction l with
  | nil => intro s i c hi; simp at hi
  | cons b r ih =>
    intro s i c hi hs h
    cases i with
    | zero => exact sumB_byte hs (sumL_inj r (sumB_lt c hs) (sumB_lt b hs) h)
    | succ i => exact ih i c (by simpa using hi) (sumB_lt b hs) h

/- the four bytes -/
def four (x : Nat) : List UInt8 := [UInt8.ofNat (x / 16777216), UInt8.ofNat (x / 65536), UInt8.ofNat (x / 256), UInt8.ofNat x]
theorem four_length (x : Nat) : (four x).length = 4 := rfl
theorem four_inj {x y : Nat} (hx : x < 4294967296) (hy : y < 4294967296) (h : four x = four y) : x = y := by
  unfold four at h
  simp only [List.cons.injEq, and_true, ← UInt8.toNat_inj, UInt8.toNat_ofNat'] at h
  omega

def sealL (l : List UInt8) : List UInt8 := l ++ four (sumL 4294967295 l)
def sealedR (l : List UInt8) : Bool := l.drop (l.length - 4) == four (sumL 4294967295 (l.take (l.length - 4)))

theorem sealedR_seal (l : List UInt8) : sealedR (sealL l) = true := by
  have e : (sealL l).length - 4 = l.length := by simp [sealL, four_length]
  unfold sealedR
  rw [e]
  simp [sealL]

theorem sealedR_turned (l : List UInt8) (i : Nat) (c : UInt8) (hi : i < (sealL l).length) (hc : c ≠ (sealL l)[i]) : sealedR ((sealL l).set i c) = false := by
  have e : ((sealL l).set i c).length - 4 = l.length := by simp [sealL, four_length]
  have hs : sumL 4294967295 l < 4294967296 := sumL_lt l (by omega)
  unfold sealedR
  rw [e, beq_eq_false_iff_ne]
  intro h
  by_cases hl : i < l.length
  · have e1 : (sealL l).set i c = l.set i c ++ four (sumL 4294967295 l) := by unfold sealL; rw [List.set_append_left _ _ hl]
    rw [e1, show l.length = (l.set i c).length by simp, List.drop_left, List.take_left] at h
    have h2 := four_inj hs (sumL_lt (l.set i c) (by omega)) h
    refine hc ?_
    rw [sumL_set l i c hl (by omega) h2.symm]
    simp [sealL, hl]
  · have e1 : (sealL l).set i c = l ++ (four (sumL 4294967295 l)).set (i - l.length) c := by unfold sealL; rw [List.set_append_right _ _ (by omega)]
    rw [e1, List.drop_left, List.take_left] at h
    have hi4 : i - l.length < (four (sumL 4294967295 l)).length := by simp only [sealL, List.length_append] at hi; omega
    refine hc ?_
    have h3 : ((four (sumL 4294967295 l)).set (i - l.length) c)[i - l.length]? = (four (sumL 4294967295 l))[i - l.length]? := by rw [h]
    rw [List.getElem?_set_self hi4, List.getElem?_eq_getElem hi4] at h3
    simp only [Option.some.injEq] at h3
    rw [h3]
    simp only [sealL]
    rw [List.getElem_append_right (by omega)]
end Go.Proofs.YtdabglemkpokpaaDoor
