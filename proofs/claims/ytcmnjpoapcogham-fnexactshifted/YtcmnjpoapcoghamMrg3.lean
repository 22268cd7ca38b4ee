/- Four texts in one. -/
import Derived.Test.YtcmnjpoapcoghamMrg1
import Derived.WalkKit
import Derived.WalkSpells
import Derived.ProofKit
import Derived.Test.YtcmnjpoapcoghamMrg2
/- What a TmVar stands for, again and again. Plain. -/
namespace Go.Proofs.Ytcmnjpoapcogham

def Tm.kind : Tm → Int
  | .mk k _ _ _ => k
def Tm.num : Tm → Int
  | .mk _ _ n _ => n

/-- what a term stands for in the list, if it stands for something -/
def nextT (ks : List Tm) (t : Tm) : Option Tm :=
  if t.kind = 1 ∧ 0 ≤ t.num then
    match ks[t.num.toNat]? with
    | none => none
    | some u => if u.kind = 0 then none else some u
  else none

def walkT (ks : List Tm) : Nat → Tm → Tm
  | 0, t => t
  | n + 1, t => match nextT ks t with
    | none => t
    | some u => walkT ks n u

theorem walkT_none {ks : List Tm} {t : Tm} (h : nextT ks t = none) (n : Nat) : walkT ks n t = t := by
  cases n with
  | zero => rfl
  | succ n => unfold walkT; rw [h]
theorem walkT_some {ks : List Tm} {t u : Tm} (h : nextT ks t = some u) (n : Nat) : walkT ks (n + 1) t = walkT ks n u := by
  show (match nextT ks t with | none => t | some u => walkT ks n u) = _
  rw [h]

theorem nextT_kind {ks : List Tm} {t : Tm} (h : t.kind ≠ 1) : nextT ks t = none := by
  unfold nextT; rw [if_neg (by intro e; exact h e.1)]
theorem nextT_out {ks : List Tm} {t : Tm} (h : t.num < 0 ∨ (ks.length : Int) ≤ t.num) : nextT ks t = none := by
  unfold nextT
  by_cases h1 : t.kind = 1 ∧ 0 ≤ t.num
  · rw [if_pos h1, List.getElem?_eq_none (by omega)]
  · rw [if_neg h1]
theorem nextT_at {ks : List Tm} {t : Tm} {j : Nat} (hk : t.kind = 1) (hj : t.num = (j : Int)) (hlt : j < ks.length) : nextT ks t = if ks[j].kind = 0 then none else some ks[j] := by
  unfold nextT
  rw [if_pos ⟨hk, by omega⟩, show t.num.toNat = j by omega, List.getElem?_eq_getElem hlt]

/-- it is a term of the list, or the term itself -/
theorem walkT_mem (ks : List Tm) (n : Nat) (t : Tm) : walkT ks n t = t ∨ walkT ks n t ∈ ks := by
  induction n generalizing t with
  | zero => exact Or.inl rfl
  | succ n ih =>
    cases h : nextT ks t with
    | none => exact Or.inl (walkT_none h _)
    | some u =>
      rw [walkT_some h]
      have hu : u ∈ ks := by
        unfold nextT at h
        split at h
        · split at h
          · cases h
          · rename_i x hx
            split at h
            · cases h
            · cases h; exact List.mem_of_getElem? hx
        · cases h
      rcases ih u with e | e
      · rw [e]; exact Or.inr hu
      · exact Or.inr e
end Go.Proofs.Ytcmnjpoapcogham

/- How many terms a term has. Of no program. -/
namespace Go.Proofs.Ytcmnjpoapcogham

/-- how many terms -/
def Tm.n : Tm → Nat
  | .mk _ _ _ ks => 1 + ns ks
where ns : List Tm → Nat
  | [] => 0
  | t :: ts => t.n + ns ts
abbrev ns := Tm.n.ns
theorem ns_append (l m : List Tm) : ns (l ++ m) = ns l + ns m := by
  induction l with
  | nil => simp [ns, Tm.n.ns]
  | cons t r ih => simp only [List.cons_append, ns, Tm.n.ns] at *; omega
theorem n_mk (k : Int) (s : ByteArray) (m : Int) (ks : List Tm) : (Tm.mk k s m ks).n = 1 + ns ks := by simp [Tm.n, ns]
theorem ns_take_le (ks : List Tm) (j : Nat) : ns (ks.take j) ≤ ns ks := by
  have : ns (ks.take j) + ns (ks.drop j) = ns ks := by rw [← ns_append, List.take_append_drop]
  omega
end Go.Proofs.Ytcmnjpoapcogham

/- Which names are right. Plain. -/
namespace Go.Proofs.Ytcmnjpoapcogham
open Go.RowKit

def charOk (c : UInt8) : Bool := !(decide (c.toNat < 33) || decide (126 < c.toNat) || decide (c.toNat = 39) || decide (c.toNat = 34))
def nameOk (s : ByteArray) : Bool := s.data.toList.all charOk && decide (1 ≤ s.size ∧ s.size ≤ 20)

theorem take_at (s : ByteArray) (k : Nat) (h : k < s.size) : s.data.toList.take (k + 1) = s.data.toList.take k ++ [s[k]] := by
  rw [List.take_succ_eq_append_getElem (by simpa using h)]; rfl
theorem mem_s (s : ByteArray) (k : Nat) (h : k < s.size) : s[k] ∈ s.data.toList := by
  show s.data[k] ∈ s.data.toList
  simp

end Go.Proofs.Ytcmnjpoapcogham

/- Which terms are right: the plain rule. -/
namespace Go.Proofs.Ytcmnjpoapcogham
open Go.RowKit

def oneT (k : Int) (s : ByteArray) (n : Int) (l : Nat) : Bool :=
  if k = 1 then decide (0 ≤ n ∧ n ≤ 99999) && decide (s.size = 0) && decide (l = 0)
  else if k = 2 then nameOk s && decide (n = 0) && decide (l = 0)
  else if k = 3 then decide (-999999999 ≤ n ∧ n ≤ 999999999) && decide (s.size = 0) && decide (l = 0)
  else if k = 4 then nameOk s && decide (n = 0) && decide (1 ≤ l ∧ l ≤ 5)
  else false
def Tm.right : Tm → Nat → Bool
  | .mk k s n ks, d => decide (d ≤ 40) && oneT k s n ks.length && rights ks (d + 1)
where rights : List Tm → Nat → Bool
  | [], _ => true
  | t :: ts, d => t.right d && rights ts d
abbrev rights := Tm.right.rights
def Tm.ok (t : Tm) : Bool := decide (t.n ≤ 400) && t.right 1
theorem right_mk (k : Int) (s : ByteArray) (n : Int) (ks : List Tm) (d : Nat) : (Tm.mk k s n ks).right d = (decide (d ≤ 40) && oneT k s n ks.length && rights ks (d + 1)) := by simp [Tm.right, rights]
theorem rights_all (ks : List Tm) (d : Nat) : rights ks d = ks.all fun t => t.right d := by
  induction ks with
  | nil => rfl
  | cons t r ih => simp only [rights, Tm.right.rights, List.all_cons] at *; rw [ih]

theorem ret_bool {a b : Bool} (h : a = b) : Ending.returned (.bool a) = .returned (.bool b) := by rw [h]

theorem rights_take {ks : List Tm} {d j : Nat} (hj : j < ks.length) (h : rights (ks.take j) d = true) (h1 : ks[j].right d = true) : rights (ks.take (j + 1)) d = true := by
  rw [rights_all] at *
  rw [List.take_succ_eq_append_getElem hj, List.all_append, h]
  simp [h1]
theorem rights_no {ks : List Tm} {d j : Nat} (hj : j < ks.length) (h1 : ks[j].right d = false) : rights ks d = false := by
  rw [rights_all, List.all_eq_false]
  exact ⟨ks[j], List.getElem_mem hj, by simp [h1]⟩

theorem empty_of {s : ByteArray} (h : s.size = 0) : s = ⟨#[]⟩ := by
  apply ByteArray.ext
  exact Array.eq_empty_of_size_eq_zero h
theorem not_empty {s : ByteArray} (h : s.size ≠ 0) : ¬ s.toList = [] := by
  intro e
  apply h
  have := congrArg List.length e
  rw [ByteArray.toList_eq, Array.length_toList] at this
  exact this

theorem nat0 (l : Nat) : ((l : Int) == 0) = decide (l = 0) := by
  by_cases h : l = 0
  · subst h; rfl
  · rw [decide_eq_false h, beq_eq_false_iff_ne]; omega

theorem tm_shape {w : World} {t : Tm} {v : Value} (h : TmIn w t v) : ∃ k s n ao len cap, v = .agg #[.int .i64 k, .string s, .int .i64 n, .slice ao len cap] := by
  obtain ⟨k, s, n, ks⟩ := t
  unfold TmIn at h
  obtain ⟨ao, cap, rfl, _⟩ := h
  exact ⟨_, _, _, _, _, _, rfl⟩

end Go.Proofs.Ytcmnjpoapcogham
