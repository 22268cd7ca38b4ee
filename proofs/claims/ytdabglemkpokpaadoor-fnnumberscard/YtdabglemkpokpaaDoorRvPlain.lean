/- Reading a number of seven-bit bytes back: a plain function, and that it meets varB. -/
import Derived.Test.YtdabglemkpokpaaDoorVarPlain
namespace Go.Proofs.YtdabglemkpokpaaDoor

/-- the number and how many bytes it took, of the bytes l, k of them being read already into n, u = 128^k -/
def rvScan : List UInt8 → Nat → Nat → Nat → Option (Nat × Nat)
  | [], _, _, _ => none
  | c :: r, k, n, u =>
    if 5 ≤ k then none
    else if 127 < c.toNat then rvScan r (k + 1) (n + c.toNat % 128 * u) (u * 128)
    else if c.toNat = 0 ∧ 0 < k then none
    else if 1000000000 < n + c.toNat % 128 * u then none
    else some (n + c.toNat % 128 * u, k + 1)

def dec : List UInt8 → Nat
  | [] => 0
  | c :: r => c.toNat % 128 + 128 * dec r

theorem dec_snoc (p : List UInt8) (c : UInt8) : dec (p ++ [c]) = dec p + c.toNat % 128 * 128 ^ p.length := by
  induction p with
  | nil => simp [dec]
  | cons b r ih =>
    simp only [List.cons_append, dec, ih, List.length_cons, Nat.pow_succ]
    rw [Nat.mul_add, ← Nat.add_assoc, ← Nat.mul_assoc 128, Nat.mul_comm 128 (c.toNat % 128), Nat.mul_assoc (c.toNat % 128), Nat.mul_comm 128 (128 ^ r.length)]

theorem dec_pos (p : List UInt8) (c : UInt8) (h0 : c.toNat ≠ 0) (h1 : c.toNat ≤ 127) : 0 < dec (p ++ [c]) := by
  induction p with
  | nil => simp [dec]; omega
  | cons b r ih => simp only [List.cons_append, dec]; omega

theorem varB_dec (p : List UInt8) (c : UInt8) (hp : ∀ b ∈ p, 127 < b.toNat) (h1 : c.toNat ≤ 127) (h : p = [] ∨ c.toNat ≠ 0) : varB (dec (p ++ [c])) = p ++ [c] := by
  induction p with
  | nil =>
    have e : dec ([] ++ [c]) = c.toNat := by simp [dec]; omega
    rw [e, varB_last (by omega)]
    simp
  | cons b r ih =>
    have hc : c.toNat ≠ 0 := by rcases h with h | h <;> simp_all
    have hb : 127 < b.toNat := hp b (by simp)
    have hb2 := UInt8.toNat_lt b
    have hpos := dec_pos r c hc h1
    have ih' := ih (fun x hx => hp x (by simp [hx])) (Or.inr hc)
    rw [List.cons_append, dec, varB_more (by omega)]
    have e1 : (b.toNat % 128 + 128 * dec (r ++ [c])) % 128 + 128 = b.toNat := by omega
    have e2 : (b.toNat % 128 + 128 * dec (r ++ [c])) / 128 = dec (r ++ [c]) := by omega
    rw [e1, e2, ih']
    simp

theorem varB_ne (n : Nat) : varB n ≠ [] := by
  by_cases h : 127 < n
  · rw [varB_more h]; simp
  · rw [varB_last h]; simp

theorem varB_last_pos (n : Nat) (h : 0 < n) : (varB n).getLast? ≠ some 0 := by
  induction n using Nat.strongRecOn with
  | ind n ih =>
    by_cases h1 : 127 < n
    · rw [varB_more h1]
      have hne := varB_ne (n / 128)
      have := ih (n / 128) (by omega) (by omega)
      cases hv : varB (n / 128) with
      | nil => exact absurd hv hne
      | cons a r => rw [hv] at this; simpa using this
    · rw [varB_last h1]
      simp only [List.getLast?_singleton, ne_eq, Option.some.injEq]
      intro e
      have := congrArg UInt8.toNat e
      simp at this
      omega

theorem varB_long (n : Nat) (p : List UInt8) (c : UInt8) (hc : c.toNat = 0) (hp : p ≠ []) : varB n ≠ p ++ [c] := by
  intro e
  have hc0 : c = 0 := by apply UInt8.toNat_inj.1; simpa using hc
  subst hc0
  by_cases h : 0 < n
  · have := varB_last_pos n h
    rw [e] at this
    simp at this
  · obtain rfl : n = 0 := by omega
    rw [varB_last (by omega)] at e
    cases p with
    | nil => exact hp rfl
    | cons a r => simp at e

theorem dec_lt (p : List UInt8) : dec p < 128 ^ p.length := by
  induction p with
  | nil => simp [dec]
  | cons c r ih => simp only [dec, List.length_cons, Nat.pow_succ]; omega
end Go.Proofs.YtdabglemkpokpaaDoor
