/- Decimal figures of a number, and a number of figures, as plain functions. -/
import Derived.Test.YtmhmlkdoaojimaqHexPlain
namespace Go.Proofs.Ytmhmlkdoaojimaq

def decR (n : Nat) : List UInt8 := if _h : 0 < n then decR (n / 10) ++ [fig (n % 10)] else []
theorem decR_pos {n : Nat} (h : 0 < n) : decR n = decR (n / 10) ++ [fig (n % 10)] := by rw [decR]; simp [h]
theorem decR_zero : decR 0 = [] := by rw [decR]; simp
def decB (n : Nat) : List UInt8 := if n = 0 then [48] else decR n
def decI (n : Int) : List UInt8 := if n < 0 then 45 :: decR n.natAbs else decB n.toNat

theorem decR_len (k : Nat) : ∀ n, n < 10 ^ k → (decR n).length ≤ k := by
  induction k with
  | zero => intro n h; obtain rfl : n = 0 := by simpa using h
            rw [decR_zero]; simp
  | succ k ih =>
    intro n h
    by_cases hn : 0 < n
    · rw [decR_pos hn, List.length_append]
      have := ih (n / 10) (by rw [Nat.pow_succ] at h; omega)
      simp; omega
    · obtain rfl : n = 0 := by omega
      rw [decR_zero]; simp

theorem decR_ne {n : Nat} (h : 0 < n) : decR n ≠ [] := by rw [decR_pos h]; simp

theorem decR_head (n : Nat) (h : 0 < n) : (decR n).head? ≠ some 48 := by
  induction n using Nat.strongRecOn with
  | ind n ih =>
    rw [decR_pos h]
    by_cases h1 : 0 < n / 10
    · have := ih (n / 10) (by omega) h1
      cases hd : decR (n / 10) with
      | nil => exact absurd hd (decR_ne h1)
      | cons a r => rw [hd] at this; simpa using this
    · have e : n / 10 = 0 := by omega
      rw [e, decR_zero]
      simp only [List.nil_append, List.head?_cons, ne_eq, Option.some.injEq]
      intro e2
      have h2 := congrArg UInt8.toNat e2
      rw [fig_nat _ (by omega), if_pos (by omega)] at h2
      simp at h2
      omega

def digit (c : UInt8) : Prop := 48 ≤ c.toNat ∧ c.toNat ≤ 57
def numF (n : Nat) (l : List UInt8) : Nat := l.foldl (fun n c => 10 * n + (c.toNat - 48)) n
def numL (l : List UInt8) : Nat := numF 0 l
theorem numL_snoc (p : List UInt8) (c : UInt8) : numL (p ++ [c]) = 10 * numL p + (c.toNat - 48) := by simp [numL, numF]
theorem numF_ge (l : List UInt8) : ∀ n, n ≤ numF n l := by
  induction l with
  | nil => intro n; exact Nat.le_refl _
  | cons c r ih => intro n; have := ih (10 * n + (c.toNat - 48)); simp only [numF, List.foldl_cons] at *; omega
theorem numL_pre (p q : List UInt8) : numL p ≤ numL (p ++ q) := by
  have := numF_ge q (numF 0 p)
  simpa [numL, numF, List.foldl_append] using this
theorem numL_lt (l : List UInt8) (h : ∀ c ∈ l, digit c) : numL l < 10 ^ l.length := by
  rw [← List.reverse_reverse l] at *
  generalize l.reverse = r at *
  induction r with
  | nil => simp [numL, numF]
  | cons c r ih =>
    rw [List.reverse_cons] at *
    have h1 := ih (fun x hx => h x (by simp at hx; simp [hx]))
    have hc : digit c := h c (by simp)
    rw [numL_snoc, List.length_append, List.length_singleton, Nat.pow_succ]
    unfold digit at hc
    omega

/-- a number's figures: at least one, figures alone, no needless nought -/
def neat (l : List UInt8) : Prop := l ≠ [] ∧ (l.head? = some 48 → l.length = 1)

theorem head_snoc (p : List UInt8) (c : UInt8) (h : p ≠ []) : (p ++ [c]).head? = p.head? := by
  cases p with
  | nil => exact absurd rfl h
  | cons a r => rfl

theorem numL_big (r : List UInt8) : (∀ c ∈ r.reverse, digit c) → r ≠ [] → r.reverse.head? ≠ some 48 → 10 ^ (r.length - 1) ≤ numL r.reverse := by
  induction r with
  | nil => intro _ h; exact absurd rfl h
  | cons c r ih =>
    intro hd _ hh
    rw [List.reverse_cons] at *
    have hc : digit c := hd c (by simp)
    unfold digit at hc
    rw [numL_snoc]
    by_cases hr : r = []
    · subst hr
      simp only [List.reverse_nil, List.nil_append, List.head?_cons, ne_eq, Option.some.injEq] at hh
      have : c.toNat ≠ 48 := fun e => hh (UInt8.toNat_inj.1 (by simpa using e))
      simp [numL, numF]; omega
    · have hrr : r.reverse ≠ [] := by simpa using hr
      have h1 := ih (fun x hx => hd x (by simp at hx; simp [hx])) hr (by rw [head_snoc _ _ hrr] at hh; exact hh)
      have hl : 0 < r.length := List.length_pos_iff.2 hr
      have e : 10 ^ ((c :: r).length - 1) = 10 ^ (r.length - 1) * 10 := by
        rw [← Nat.pow_succ]; congr 1; simp; omega
      rw [e]; omega

theorem decB_num (r : List UInt8) : (∀ c ∈ r.reverse, digit c) → neat r.reverse → decB (numL r.reverse) = r.reverse := by
  induction r with
  | nil => intro _ h; exact absurd rfl h.1
  | cons c r ih =>
    intro hd hn
    rw [List.reverse_cons] at *
    have hc : digit c := hd c (by simp)
    unfold digit at hc
    have hf : fig (c.toNat - 48) = c := by
      unfold fig
      rw [if_pos (by omega), show 48 + (c.toNat - 48) = c.toNat by omega]
      simp
    by_cases hr : r = []
    · subst hr
      have e : numL ([] ++ [c]) = c.toNat - 48 := by simp [numL, numF]
      simp only [List.reverse_nil]
      rw [e]
      by_cases h0 : c.toNat - 48 = 0
      · have : c = 48 := UInt8.toNat_inj.1 (by simp; omega)
        subst this
        rfl
      · rw [decB, if_neg h0, decR_pos (by omega), show (c.toNat - 48) / 10 = 0 by omega, decR_zero, show (c.toNat - 48) % 10 = c.toNat - 48 by omega, hf]
    · have hrr : r.reverse ≠ [] := by simpa using hr
      have hh : r.reverse.head? ≠ some 48 := by
        intro e
        have := hn.2 (by rw [head_snoc _ _ hrr]; exact e)
        rw [List.length_append] at this
        have : r.reverse.length = 0 := by simp at this; simpa using this
        exact hrr (List.length_eq_zero_iff.1 this)
      have hdd : ∀ x ∈ r.reverse, digit x := fun x hx => hd x (by simp at hx; simp [hx])
      have h1 := ih hdd ⟨hrr, fun e => absurd e hh⟩
      have hpos : 0 < numL r.reverse := Nat.lt_of_lt_of_le (Nat.pow_pos (by omega)) (numL_big r hdd hr hh)
      rw [decB, if_neg (by omega)] at h1
      rw [numL_snoc, decB, if_neg (by omega), decR_pos (by omega), show (10 * numL r.reverse + (c.toNat - 48)) / 10 = numL r.reverse by omega,
        show (10 * numL r.reverse + (c.toNat - 48)) % 10 = c.toNat - 48 by omega, h1, hf]

theorem decB_neat (n : Nat) : neat (decB n) := by
  unfold decB
  split
  · exact ⟨by simp, fun _ => rfl⟩
  · rename_i h
    exact ⟨decR_ne (by omega), fun e => absurd e (decR_head n (by omega))⟩

def rdOk (l : List UInt8) : Prop := neat l ∧ (∀ c ∈ l, digit c) ∧ numL l ≤ 1000000000
def rdNo : Value := .tuple #[.int .i64 0, .bool false]

theorem dec_test (l : List UInt8) (h : ∀ c ∈ l, digit c) : (decB (numL l) == l) = true ↔ neat l := by
  constructor
  · intro e
    have e := beq_iff_eq.1 e
    rw [← e]; exact decB_neat _
  · intro hn
    have := decB_num l.reverse (by simpa using h) (by simpa using hn)
    simpa using this

theorem rdOk_len (l : List UInt8) (h : rdOk l) : l.length ≤ 10 := by
  obtain ⟨hn, hd, hb⟩ := h
  by_cases hh : l.head? = some 48
  · have := hn.2 hh; omega
  · have := numL_big l.reverse (by simpa using hd) (by simpa using hn.1) (by simpa using hh)
    rw [List.reverse_reverse, List.length_reverse] at this
    by_cases hl : l.length ≤ 10
    · exact hl
    · have : 10 ^ 10 ≤ 10 ^ (l.length - 1) := Nat.pow_le_pow_right (by omega) (by omega)
      omega
end Go.Proofs.Ytmhmlkdoaojimaq
