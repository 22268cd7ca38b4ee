/- The order of terms: the plain rule, and the specification's. -/
import Derived.Test.YtgkchpjincmjfalTmOk
import Derived.Test.YtgkchpjincmjfalRegLater
import Derived.BigQuiet
import Derived.Laws.Cover1
namespace Go.Proofs.Ytgkchpjincmjfal
open Go.RowKit

def cmpI (a b : Int) : Int := if a < b then -1 else if b < a then 1 else 0
def cmpS (a b : ByteArray) : Int := if Op.bytesLess a.toList b.toList then -1 else if a.toList == b.toList then 0 else 1
def rank (k : Int) : Int := if k = 1 then 1 else if k = 2 then 3 else if k = 3 then 2 else 4
def thenC (a b : Int) : Int := if a = 0 then b else a
theorem thenC_zero (b : Int) : thenC 0 b = b := if_pos rfl
theorem thenC_ne {a : Int} (b : Int) (h : a ≠ 0) : thenC a b = a := if_neg h
def Tm.cmp : Tm → Tm → Int
  | .mk k s n ks, .mk k' s' n' ks' => thenC (cmpI (rank k) (rank k')) (thenC (cmpI ks.length ks'.length) (thenC (cmpI n n') (thenC (cmpS s s') (cmps ks ks'))))
where cmps : List Tm → List Tm → Int
  | t :: ts, u :: us => thenC (t.cmp u) (cmps ts us)
  | _, _ => 0
abbrev cmps := Tm.cmp.cmps
theorem cmp_mk (k : Int) (s : ByteArray) (n : Int) (ks : List Tm) (k' : Int) (s' : ByteArray) (n' : Int) (ks' : List Tm) :
    (Tm.mk k s n ks).cmp (Tm.mk k' s' n' ks') = thenC (cmpI (rank k) (rank k')) (thenC (cmpI ks.length ks'.length) (thenC (cmpI n n') (thenC (cmpS s s') (cmps ks ks')))) := by simp [Tm.cmp, cmps]
theorem cmps_drop {ks us : List Tm} {j : Nat} (hj : j < ks.length) (hu : j < us.length) : cmps (ks.drop j) (us.drop j) = thenC (ks[j].cmp us[j]) (cmps (ks.drop (j + 1)) (us.drop (j + 1))) := by
  rw [List.drop_eq_getElem_cons hj, List.drop_eq_getElem_cons hu]; simp [cmps, Tm.cmp.cmps]
theorem cmps_end {ks us : List Tm} {j : Nat} (hj : ¬ j < ks.length) : cmps (ks.drop j) (us.drop j) = 0 := by
  rw [List.drop_eq_nil_of_le (by omega)]; simp [cmps, Tm.cmp.cmps]
theorem cmpI_zero {a b : Int} (h : cmpI a b = 0) : a = b := by
  unfold cmpI at h
  split at h
  · omega
  · split at h
    · omega
    · omega
theorem cmpI_in (a b : Int) : -1 ≤ cmpI a b ∧ cmpI a b ≤ 1 := by
  unfold cmpI; split
  · omega
  · split <;> omega
theorem cmpS_in (a b : ByteArray) : -1 ≤ cmpS a b ∧ cmpS a b ≤ 1 := by
  unfold cmpS; split
  · omega
  · split <;> omega

theorem specInt (a b : Int) (w : World) :
    Calls Try.prog 47 #[.int .i64 a, .int .i64 b] w fun e w' => e = .returned (.int .i64 (cmpI a b)) ∧ w' = w := by
  by_cases h : a < b
  · rw [show cmpI a b = -1 from if_pos h]
    go_enter Try.func47, Try.ntmps47
    go_wp2
    go_ret
    exact ⟨rfl, rfl⟩
  · by_cases h' : b < a
    · rw [show cmpI a b = 1 by unfold cmpI; rw [if_neg h, if_pos h']]
      go_enter Try.func47, Try.ntmps47
      go_wp2
      go_ret
      exact ⟨rfl, rfl⟩
    · rw [show cmpI a b = 0 by unfold cmpI; rw [if_neg h, if_neg h']]
      go_enter Try.func47, Try.ntmps47
      go_wp2
      go_ret
      exact ⟨rfl, rfl⟩

theorem specText (a b : ByteArray) (w : World) :
    Calls Try.prog 49 #[.string a, .string b] w fun e w' => e = .returned (.int .i64 (cmpS a b)) ∧ w' = w := by
  cases h : Op.bytesLess a.toList b.toList with
  | true =>
    rw [show cmpS a b = -1 by unfold cmpS; rw [h]; rfl]
    go_enter Try.func49, Try.ntmps49
    go_wp2
    go_ret
    exact ⟨rfl, rfl⟩
  | false =>
    cases h' : (a.toList == b.toList) with
    | true =>
      rw [show cmpS a b = 0 by unfold cmpS; rw [h, h']; rfl]
      go_enter Try.func49, Try.ntmps49
      go_wp2
      go_ret
      exact ⟨rfl, rfl⟩
    | false =>
      rw [show cmpS a b = 1 by unfold cmpS; rw [h, h']; rfl]
      go_enter Try.func49, Try.ntmps49
      go_wp2
      go_ret
      exact ⟨rfl, rfl⟩

theorem specRank (k : Int) (h : k = 1 ∨ k = 2 ∨ k = 3 ∨ k = 4) (w : World) :
    Calls Try.prog 48 #[.int .i64 k] w fun e w' => e = .returned (.int .i64 (rank k)) ∧ Below w.heap.size w w' := by
  rcases h with rfl | rfl | rfl | rfl
  all_goals
    go_enter Try.func48, Try.ntmps48
    go_wp2
    go_ret
    exact ⟨rfl, (Below.refl _ _).alloc (Nat.le_refl _) _⟩

theorem right_kind {k : Int} {s : ByteArray} {n : Int} {ks : List Tm} {d : Nat} (h : (Tm.mk k s n ks).right d = true) : (k = 1 ∨ k = 2 ∨ k = 3 ∨ k = 4) ∧ ∀ t ∈ ks, t.right (d + 1) = true := by
  rw [right_mk, rights_all] at h
  simp only [Bool.and_eq_true, List.all_eq_true] at h
  refine ⟨?_, h.2⟩
  have h1 := h.1.2
  unfold oneT at h1
  by_cases a : k = 1
  · exact Or.inl a
  · by_cases b : k = 2
    · exact Or.inr (Or.inl b)
    · by_cases c : k = 3
      · exact Or.inr (Or.inr (Or.inl c))
      · by_cases e : k = 4
        · exact Or.inr (Or.inr (Or.inr e))
        · rw [if_neg a, if_neg b, if_neg c, if_neg e] at h1; cases h1

def CmpOk (t : Tm) : Prop := ∀ (w : World) (u : Tm) (va vb : Value) (d d' : Nat), TmIn w t va → TmIn w u vb → t.right d = true → u.right d' = true →
  Calls Try.prog 36 #[va, vb] w fun e w' => e = .returned (.int .i64 (t.cmp u)) ∧ Below w.heap.size w w'
end Go.Proofs.Ytgkchpjincmjfal
