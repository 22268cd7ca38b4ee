/- What a TmVar stands for, again and again. Plain. -/
import Derived.Test.YtmhmlkdoaojimapMrg1
namespace Go.Proofs.Ytmhmlkdoaojimap

def Tm.kind : Tm → Int
  | .mk k _ _ _ => k
def Tm.num : Tm → Int
  | .mk _ _ n _ => n

/-- what a term stands for in the list, if it stands for something -/
def nextT (ks : List Tm) (t : Tm) : Option Tm :=
  if t.kind = 1 ∧ 0 ≤ t.num then
    match ks[t.num.toNat]? with
    | none => none
    | some u => if u.kind = 0 then none else some u
  else none

def walkT (ks : List Tm) : Nat → Tm → Tm
  | 0, t => t
  | n + 1, t => match nextT ks t with
    | none => t
    | some u => walkT ks n u

theorem walkT_none {ks : List Tm} {t : Tm} (h : nextT ks t = none) (n : Nat) : walkT ks n t = t := by
  cases n with
  | zero => rfl
  | succ n => unfold walkT; rw [h]
theorem walkT_some {ks : List Tm} {t u : Tm} (h : nextT ks t = some u) (n : Nat) : walkT ks (n + 1) t = walkT ks n u := by
  show (match nextT ks t with | none => t | some u => walkT ks n u) = _
  rw [h]

theorem nextT_kind {ks : List Tm} {t : Tm} (h : t.kind ≠ 1) : nextT ks t = none := by
  unfold nextT; rw [if_neg (by intro e; exact h e.1)]
theorem nextT_out {ks : List Tm} {t : Tm} (h : t.num < 0 ∨ (ks.length : Int) ≤ t.num) : nextT ks t = none := by
  unfold nextT
  by_cases h1 : t.kind = 1 ∧ 0 ≤ t.num
  · rw [if_pos h1, List.getElem?_eq_none (by omega)]
  · rw [if_neg h1]
theorem nextT_at {ks : List Tm} {t : Tm} {j : Nat} (hk : t.kind = 1) (hj : t.num = (j : Int)) (hlt : j < ks.length) : nextT ks t = if ks[j].kind = 0 then none else some ks[j] := by
  unfold nextT
  rw [if_pos ⟨hk, by omega⟩, show t.num.toNat = j by omega, List.getElem?_eq_getElem hlt]

/-- it is a term of the list, or the term itself -/
theorem walkT_mem (ks : List Tm) (n : Nat) (t : Tm) : walkT ks n t = t ∨ walkT ks n t ∈ ks := by
  induction n generalizing t with
  | zero => exact Or.inl rfl
  | succ n ih =>
    cases h : nextT ks t with
    | none => exact Or.inl (walkT_none h _)
    | some u =>
      rw [walkT_some h]
      have hu : u ∈ ks := by
        unfold nextT at h
        split at h
        · split at h
          · cases h
          · rename_i x hx
            split at h
            · cases h
            · cases h; exact List.mem_of_getElem? hx
        · cases h
      rcases ih u with e | e
      · rw [e]; exact Or.inr hu
      · exact Or.inr e
end Go.Proofs.Ytmhmlkdoaojimap
