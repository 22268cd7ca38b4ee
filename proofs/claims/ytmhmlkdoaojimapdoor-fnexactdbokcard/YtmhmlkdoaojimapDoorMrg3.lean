/- Four texts in one. -/
import Derived.Test.YtmhmlkdoaojimapDoorMrg1
import Derived.WalkKit
import Derived.WalkSpells
import Derived.ProofKit
import Derived.Test.YtmhmlkdoaojimapDoorMrg2
/- How many terms a term has. Of no program. -/
namespace Go.Proofs.YtmhmlkdoaojimapDoor

/-- how many terms -/
def Tm.n : Tm → Nat
  | .mk _ _ _ ks => 1 + ns ks
where ns : List Tm → Nat
  | [] => 0
  | t :: ts => t.n + ns ts
abbrev ns := Tm.n.ns
theorem ns_append (l m : List Tm) : ns (l ++ m) = ns l + ns m := by
  induction l with
  | nil => simp [ns, Tm.n.ns]
  | cons t r ih => simp only [List.cons_append, ns, Tm.n.ns] at *; omega
theorem n_mk (k : Int) (s : ByteArray) (m : Int) (ks : List Tm) : (Tm.mk k s m ks).n = 1 + ns ks := by simp [Tm.n, ns]
theorem ns_take_le (ks : List Tm) (j : Nat) : ns (ks.take j) ≤ ns ks := by
  have : ns (ks.take j) + ns (ks.drop j) = ns ks := by rw [← ns_append, List.take_append_drop]
  omega
end Go.Proofs.YtmhmlkdoaojimapDoor

/- Which names are right. Plain. -/
namespace Go.Proofs.YtmhmlkdoaojimapDoor
open Go.RowKit

def charOk (c : UInt8) : Bool := !(decide (c.toNat < 33) || decide (126 < c.toNat) || decide (c.toNat = 39) || decide (c.toNat = 34))
def nameOk (s : ByteArray) : Bool := s.data.toList.all charOk && decide (1 ≤ s.size ∧ s.size ≤ 20)

theorem take_at (s : ByteArray) (k : Nat) (h : k < s.size) : s.data.toList.take (k + 1) = s.data.toList.take k ++ [s[k]] := by
  rw [List.take_succ_eq_append_getElem (by simpa using h)]; rfl
theorem mem_s (s : ByteArray) (k : Nat) (h : k < s.size) : s[k] ∈ s.data.toList := by
  show s.data[k] ∈ s.data.toList
  simp

end Go.Proofs.YtmhmlkdoaojimapDoor

/- Which terms are right: the plain rule. -/
namespace Go.Proofs.YtmhmlkdoaojimapDoor
open Go.RowKit

def oneT (k : Int) (s : ByteArray) (n : Int) (l : Nat) : Bool :=
  if k = 1 then decide (0 ≤ n ∧ n ≤ 99999) && decide (s.size = 0) && decide (l = 0)
  else if k = 2 then nameOk s && decide (n = 0) && decide (l = 0)
  else if k = 3 then decide (-999999999 ≤ n ∧ n ≤ 999999999) && decide (s.size = 0) && decide (l = 0)
  else if k = 4 then nameOk s && decide (n = 0) && decide (1 ≤ l ∧ l ≤ 5)
  else false
def Tm.right : Tm → Nat → Bool
  | .mk k s n ks, d => decide (d ≤ 40) && oneT k s n ks.length && rights ks (d + 1)
where rights : List Tm → Nat → Bool
  | [], _ => true
  | t :: ts, d => t.right d && rights ts d
abbrev rights := Tm.right.rights
def Tm.ok (t : Tm) : Bool := decide (t.n ≤ 400) && t.right 1
theorem right_mk (k : Int) (s : ByteArray) (n : Int) (ks : List Tm) (d : Nat) : (Tm.mk k s n ks).right d = (decide (d ≤ 40) && oneT k s n ks.length && rights ks (d + 1)) := by simp [Tm.right, rights]
theorem rights_all (ks : List Tm) (d : Nat) : rights ks d = ks.all fun t => t.right d := by
  induction ks with
  | nil => rfl
  | cons t r ih => simp only [rights, Tm.right.rights, List.all_cons] at *; rw [ih]

theorem ret_bool {a b : Bool} (h : a = b) : Ending.returned (.bool a) = .returned (.bool b) := by rw [h]

theorem rights_take {ks : List Tm} {d j : Nat} (hj : j < ks.length) (h : rights (ks.take j) d = true) (h1 : ks[j].right d = true) : rights (ks.take (j + 1)) d = true := by
  rw [rights_all] at *
  rw [List.take_succ_eq_append_getElem hj, List.all_append, h]
  simp [h1]
theorem rights_no {ks : List Tm} {d j : Nat} (hj : j < ks.length) (h1 : ks[j].right d = false) : rights ks d = false := by
  rw [rights_all, List.all_eq_false]
  exact ⟨ks[j], List.getElem_mem hj, by simp [h1]⟩

theorem empty_of {s : ByteArray} (h : s.size = 0) : s = ⟨#[]⟩ := by
  apply ByteArray.ext
  exact Array.eq_empty_of_size_eq_zero h
theorem not_empty {s : ByteArray} (h : s.size ≠ 0) : ¬ s.toList = [] := by
  intro e
  apply h
  have := congrArg List.length e
  rw [ByteArray.toList_eq, Array.length_toList] at this
  exact this

theorem nat0 (l : Nat) : ((l : Int) == 0) = decide (l = 0) := by
  by_cases h : l = 0
  · subst h; rfl
  · rw [decide_eq_false h, beq_eq_false_iff_ne]; omega

theorem tm_shape {w : World} {t : Tm} {v : Value} (h : TmIn w t v) : ∃ k s n ao len cap, v = .agg #[.int .i64 k, .string s, .int .i64 n, .slice ao len cap] := by
  obtain ⟨k, s, n, ks⟩ := t
  unfold TmIn at h
  obtain ⟨ao, cap, rfl, _⟩ := h
  exact ⟨_, _, _, _, _, _, rfl⟩

end Go.Proofs.YtmhmlkdoaojimapDoor

/- Clauses of terms: head and body, the plain rule. Of no program. -/
namespace Go.Proofs.YtmhmlkdoaojimapDoor
open Go.RowKit

def cIf : ByteArray := ⟨#[58, 45]⟩
def cTrue : ByteArray := ⟨#[116, 114, 117, 101]⟩
def cCall : ByteArray := ⟨#[99, 97, 108, 108]⟩
def Tm.kd : Tm → Int
  | .mk k _ _ _ => k
/-- a struct of a name, with so many kids -/
def isSB (k : Int) (s : ByteArray) (l : Nat) (m : ByteArray) (c : Int) : Bool := decide (k = 4) && decide (s = m) && decide ((l : Int) = c)
/-- of a name that may have clauses -/
def mayB (p : ByteArray) : Bool := decide (¬ p = ⟨#[]⟩) && !ctlB p
/-- head and body -/
def cutC : Tm → Tm × Tm
  | .mk k s n [h, b] => if k = 4 ∧ s = cIf then (h, if b.kd = 1 then .mk 4 cCall 0 [b] else b) else (.mk k s n [h, b], .mk 2 cTrue 0 [])
  | t => (t, .mk 2 cTrue 0 [])
theorem cutC_yes (n : Int) (h b : Tm) : cutC (.mk 4 cIf n [h, b]) = (h, if b.kd = 1 then .mk 4 cCall 0 [b] else b) := by
  simp [cutC]
theorem cutC_no {k : Int} {s : ByteArray} {ks : List Tm} (n : Int) (h : isSB k s ks.length cIf 2 = false) : cutC (.mk k s n ks) = (.mk k s n ks, .mk 2 cTrue 0 []) := by
  match ks, h with
  | [], _ => rfl
  | [_], _ => rfl
  | [_, _], h =>
    refine if_neg ?_
    rintro ⟨rfl, rfl⟩
    simp [isSB] at h
  | _ :: _ :: _ :: _, _ => rfl
theorem isSB_yes {k : Int} {s m : ByteArray} {ks : List Tm} (h : isSB k s ks.length m 2 = true) : k = 4 ∧ s = m ∧ ∃ a b, ks = [a, b] := by
  simp only [isSB, Bool.and_eq_true, decide_eq_true_eq] at h
  obtain ⟨⟨h1, h2⟩, h3⟩ := h
  refine ⟨h1, h2, ?_⟩
  match ks, h3 with
  | [a, b], _ => exact ⟨a, b, rfl⟩
  | [], h3 => simp at h3
  | [_], h3 => simp at h3
  | _ :: _ :: _ :: _, h3 => simp at h3; omega
/-- a term is a clause -/
def clB (t : Tm) : Bool := t.ok && mayB (predB (cutC t).1)
theorem right_up (t : Tm) : ∀ d, t.right (d + 1) = true → t.right d = true := by
  refine tm_ind (p := fun t => ∀ d, t.right (d + 1) = true → t.right d = true) ?_ t
  intro k s n ks hks d h
  rw [right_mk, Bool.and_eq_true, Bool.and_eq_true] at h ⊢
  refine ⟨⟨?_, h.1.2⟩, ?_⟩
  · have := of_decide_eq_true h.1.1
    exact decide_eq_true (by omega)
  · have h2 := h.2
    rw [rights_all, List.all_eq_true] at h2 ⊢
    exact fun u hu => hks u hu _ (h2 u hu)
theorem okk_right {t : Tm} (h : t.ok = true) : t.right 1 = true := by
  unfold Tm.ok at h; rw [Bool.and_eq_true] at h; exact h.2
theorem okk_n {t : Tm} (h : t.ok = true) : t.n ≤ 400 := by
  unfold Tm.ok at h; rw [Bool.and_eq_true] at h; exact of_decide_eq_true h.1
theorem okk_mk {t : Tm} (h : t.n ≤ 400) (h2 : t.right 1 = true) : t.ok = true := by
  unfold Tm.ok; rw [Bool.and_eq_true]; exact ⟨decide_eq_true h, h2⟩
theorem okk_nk {ks : List Tm} {u : Tm} (hu : u ∈ ks) : u.n ≤ ns ks := by
  induction ks with
  | nil => cases hu
  | cons a r ih =>
    have e : ns (a :: r) = a.n + ns r := by simp [ns, Tm.n.ns]
    rcases List.mem_cons.1 hu with rfl | h
    · omega
    · have := ih h; omega
theorem okk_kid {k : Int} {s : ByteArray} {n : Int} {ks : List Tm} (h : (Tm.mk k s n ks).ok = true) {u : Tm} (hu : u ∈ ks) : u.ok = true ∧ u.right 2 = true := by
  have h1 := okk_right h
  have h2 := okk_n h
  rw [n_mk] at h2
  rw [right_mk, Bool.and_eq_true, Bool.and_eq_true, rights_all, List.all_eq_true] at h1
  have h3 := h1.2 u hu
  exact ⟨okk_mk (by have := okk_nk hu; omega) (right_up u 1 h3), h3⟩
theorem ok_true : (Tm.mk 2 cTrue 0 []).ok = true := by decide
theorem ok_call {b : Tm} (h : b.right 2 = true) (hk : b.kd = 1) : (Tm.mk 4 cCall 0 [b]).ok = true := by
  obtain ⟨k, s, n, ks⟩ := b
  obtain rfl : k = 1 := hk
  have h' := h
  rw [right_mk, Bool.and_eq_true, Bool.and_eq_true] at h
  have h1 := h.1.2
  unfold oneT at h1
  rw [if_pos rfl] at h1
  simp only [Bool.and_eq_true, decide_eq_true_eq] at h1
  obtain rfl : ks = [] := List.eq_nil_of_length_eq_zero h1.2
  refine okk_mk ?_ ?_
  · rw [n_mk]; show 1 + ns [_] ≤ 400
    have e : ns [Tm.mk 1 s n []] = 1 := by simp [ns, Tm.n.ns, Tm.n]
    omega
  · rw [right_mk, Bool.and_eq_true, Bool.and_eq_true, rights_all, List.all_eq_true]
    refine ⟨⟨by decide, by show oneT 4 cCall 0 1 = true; decide⟩, fun u hu => ?_⟩
    obtain rfl : u = _ := by simpa using hu
    exact h'
/-- what is cut of a right term is right -/
theorem cut_ok {t : Tm} (h : t.ok = true) : (cutC t).1.ok = true ∧ (cutC t).2.ok = true := by
  obtain ⟨k, s, n, ks⟩ := t
  cases hc : isSB k s ks.length cIf 2 with
  | false => rw [cutC_no n hc]; exact ⟨h, ok_true⟩
  | true =>
    obtain ⟨rfl, rfl, a, b, rfl⟩ := isSB_yes hc
    rw [cutC_yes]
    have hb := okk_kid h (u := b) (by simp)
    refine ⟨(okk_kid h (u := a) (by simp)).1, ?_⟩
    show (if _ then _ else _ : Tm).ok = true
    split
    · rename_i hk; exact ok_call hb.2 hk
    · exact hb.1
theorem ok_wt {t : Tm} (h : t.ok = true) : t.wt ≤ 10000 := by
  have hb : ∀ (t : Tm) (d : Nat), t.right d = true → t.wt + 1 ≤ 22 * t.n := by
    intro t
    refine tm_ind (p := fun t => ∀ d, t.right d = true → t.wt + 1 ≤ 22 * t.n) ?_ t
    intro k s n ks hks d h
    rw [right_mk, Bool.and_eq_true, Bool.and_eq_true, rights_all, List.all_eq_true] at h
    have hs : s.size ≤ 20 := by
      have h1 := h.1.2
      unfold oneT nameOk at h1
      split at h1
      · simp only [Bool.and_eq_true, decide_eq_true_eq] at h1; omega
      · split at h1
        · simp only [Bool.and_eq_true, decide_eq_true_eq] at h1; omega
        · split at h1
          · simp only [Bool.and_eq_true, decide_eq_true_eq] at h1; omega
          · split at h1
            · simp only [Bool.and_eq_true, decide_eq_true_eq] at h1; omega
            · cases h1
    have hL : ∀ l : List Tm, (∀ t ∈ l, t ∈ ks) → wts l + l.length ≤ 22 * ns l := by
      intro l hl
      induction l with
      | nil => simp [wts, Tm.wt.wts]
      | cons a r ih =>
        have e : ns (a :: r) = a.n + ns r := by simp [ns, Tm.n.ns]
        have e2 : wts (a :: r) = a.wt + wts r := by simp [wts, Tm.wt.wts]
        have h1 := hks a (hl a (by simp)) _ (h.2 a (hl a (by simp)))
        have h2 := ih fun t ht => hl t (by simp [ht])
        simp only [List.length_cons]
        omega
    have h3 := hL ks fun t ht => ht
    have ew : (Tm.mk k s n ks).wt = s.size + (ks.length + wts ks) := by simp [Tm.wt, wts]; omega
    rw [n_mk, ew]
    omega
  have := hb t 1 (okk_right h)
  have := okk_n h
  omega
end Go.Proofs.YtmhmlkdoaojimapDoor
