/- How terms are written, plain. Of no program. -/
import Derived.Test.YtceclkcmiaehkaoDoorReadP
import Derived.Test.YtceclkcmiaehkaoDoorSgP
import Derived.Test.YtceclkcmiaehkaoDoorDecPlain
import Derived.Test.YtceclkcmiaehkaoDoorTmOkP
namespace Go.Proofs.YtceclkcmiaehkaoDoor
open Go.RowKit

/-- one name as it stands? -/
def asAtomB (s : ByteArray) : Bool :=
  decide (s.size ≤ 3000) && match sgs s 0 with | [x] => decide (x.kind = 1) && decide (x.text = s) | _ => false
def atomL (s : ByteArray) : List UInt8 := if asAtomB s then s.data.toList else 39 :: (s.data.toList ++ [39])
def isOpB (s : ByteArray) : Bool := (infixP s).isSome || (prefixP s).isSome
def cDot : ByteArray := ⟨#[46]⟩
def cNone : ByteArray := ⟨#[91, 93]⟩
def signL (s : ByteArray) : List UInt8 := if s.data.toList = [44] then [44] else atomL s

/-- parts with , between -/
def commaL : List (List UInt8) → List UInt8
  | [] => []
  | [x] => x
  | x :: y :: r => x ++ (44 :: commaL (y :: r))

def wrAtom (s : ByteArray) : List UInt8 :=
  if s = cNone then [91, 93] else if isOpB s then 40 :: (atomL s ++ [41]) else atomL s

/-- what is written of a term, and of it as the rest of a list, out of what is written of its kids -/
def wrMk (k : Int) (s : ByteArray) (n : Int) (ps : List (List UInt8 × List UInt8)) : List UInt8 × List UInt8 :=
  if k = 1 then (95 :: decI n, 124 :: ((95 :: decI n) ++ [93]))
  else if k = 3 then (decI n, 124 :: (decI n ++ [93]))
  else if k = 2 then (wrAtom s, if s = cNone then [93] else 124 :: (wrAtom s ++ [93]))
  else match ps with
    | [p, q] =>
      if s = cDot then (91 :: (p.1 ++ q.2), 44 :: (p.1 ++ q.2))
      else if (infixP s).isSome then
        let x := 40 :: (p.1 ++ (32 :: (signL s ++ (32 :: (q.1 ++ [41])))))
        (x, 124 :: (x ++ [93]))
      else
        let x := atomL s ++ (40 :: (commaL [p.1, q.1] ++ [41]))
        (x, 124 :: (x ++ [93]))
    | ps =>
      let x := atomL s ++ (40 :: (commaL (ps.map fun x => x.1) ++ [41]))
      (x, 124 :: (x ++ [93]))
def Tm.wp : Tm → List UInt8 × List UInt8
  | .mk k s n ks => wrMk k s n (wps ks)
where wps : List Tm → List (List UInt8 × List UInt8)
  | [] => []
  | t :: ts => t.wp :: wps ts
theorem wps_map (ks : List Tm) : Tm.wp.wps ks = ks.map Tm.wp := by
  induction ks with
  | nil => rfl
  | cons t r ih => simp [Tm.wp.wps, ih]
/-- what is written of a term -/
def Tm.wr (t : Tm) : List UInt8 := t.wp.1
/-- .. as the rest of a list -/
def Tm.tl (t : Tm) : List UInt8 := t.wp.2
theorem wp_mk (k : Int) (s : ByteArray) (n : Int) (ks : List Tm) : (Tm.mk k s n ks).wp = wrMk k s n (ks.map Tm.wp) := by rw [Tm.wp, wps_map]

theorem commaL_len (l : List (List UInt8)) : (commaL l).length ≤ (l.map List.length).sum + l.length := by
  induction l with
  | nil => simp [commaL]
  | cons x r ih =>
    cases r with
    | nil => simp [commaL]
    | cons y r => simp only [commaL, List.length_append, List.length_cons, List.map_cons, List.sum_cons] at *; omega

theorem decI_len (n : Int) (h : -999999999 ≤ n ∧ n ≤ 999999999) : (decI n).length ≤ 11 := by
  unfold decI
  split
  · have := decR_len 10 n.natAbs (by omega)
    simp only [List.length_cons]; omega
  · unfold decB
    split
    · simp
    · have := decR_len 10 n.toNat (by omega)
      omega

theorem atomL_len (s : ByteArray) : (atomL s).length ≤ s.size + 2 := by
  have e : s.data.toList.length = s.size := by rw [Array.length_toList]; rfl
  unfold atomL
  split
  · omega
  · simp only [List.length_cons, List.length_append, List.length_nil]; omega
theorem signL_len (s : ByteArray) : (signL s).length ≤ s.size + 2 := by
  unfold signL
  have := atomL_len s
  split
  · simp only [List.length_cons, List.length_nil]; omega
  · exact this
theorem wrAtom_len (s : ByteArray) : (wrAtom s).length ≤ s.size + 4 := by
  unfold wrAtom
  have := atomL_len s
  split
  · simp only [List.length_cons, List.length_nil]; omega
  · split
    · simp only [List.length_cons, List.length_append, List.length_nil]; omega
    · omega

/-- how long it is -/
theorem wp_len (t : Tm) : ∀ d, t.right d = true → t.wr.length ≤ 60 * t.n ∧ t.tl.length ≤ 60 * t.n := by
  refine tm_ind (p := fun t => ∀ d, t.right d = true → t.wr.length ≤ 60 * t.n ∧ t.tl.length ≤ 60 * t.n) ?_ t
  intro k s n ks hks d hr
  rw [right_mk, Bool.and_eq_true, Bool.and_eq_true, rights_all, List.all_eq_true] at hr
  obtain ⟨⟨_, ho⟩, hr⟩ := hr
  have hk : ∀ u ∈ ks, u.wr.length ≤ 60 * u.n ∧ u.tl.length ≤ 60 * u.n := fun u hu => hks u hu (d + 1) (hr u hu)
  have hsum : ∀ l : List Tm, (∀ u ∈ l, u.wr.length ≤ 60 * u.n ∧ u.tl.length ≤ 60 * u.n) → (((l.map Tm.wp).map fun x => x.1).map List.length).sum ≤ 60 * ns l := by
    intro l hl
    induction l with
    | nil => simp
    | cons u r ih =>
      have h1 := (hl u (by simp)).1
      have h2 := ih fun v hv => hl v (by simp [hv])
      have h3 : ns (u :: r) = u.n + ns r := by simp [ns, Tm.n.ns]
      simp only [List.map_cons, List.sum_cons, h3] at *
      have h4 : u.wp.1.length = u.wr.length := rfl
      omega
  have hs0 := hsum ks hk
  rw [n_mk]
  unfold oneT at ho
  unfold Tm.wr Tm.tl
  rw [wp_mk]
  unfold wrMk
  by_cases h1 : k = 1
  · rw [if_pos h1] at ho ⊢
    simp only [Bool.and_eq_true, decide_eq_true_eq] at ho
    have := decI_len n (by omega)
    simp only [List.length_cons, List.length_append, List.length_nil]; omega
  rw [if_neg h1] at ho ⊢
  by_cases h3 : k = 3
  · rw [if_neg (by omega), if_pos h3] at ho
    rw [if_pos h3]
    simp only [Bool.and_eq_true, decide_eq_true_eq] at ho
    have := decI_len n (by omega)
    simp only [List.length_cons, List.length_append, List.length_nil]; omega
  rw [if_neg h3]
  have hsz : s.size ≤ 20 ∧ (k ≠ 2 → ks.length ≤ 5) := by
    by_cases h2 : k = 2
    · rw [if_pos h2] at ho
      simp only [nameOk, Bool.and_eq_true, decide_eq_true_eq] at ho
      exact ⟨by omega, by omega⟩
    · rw [if_neg h2, if_neg h3] at ho
      split at ho
      · simp only [nameOk, Bool.and_eq_true, decide_eq_true_eq] at ho
        exact ⟨by omega, by omega⟩
      · cases ho
  obtain ⟨hs1, hs2⟩ := hsz
  by_cases h2 : k = 2
  · rw [if_pos h2]
    have := wrAtom_len s
    refine ⟨by show (wrAtom s).length ≤ _; omega, ?_⟩
    show (if s = cNone then [93] else 124 :: (wrAtom s ++ [93])).length ≤ _
    split <;> simp only [List.length_cons, List.length_append, List.length_nil] <;> omega
  rw [if_neg h2]
  have hl := hs2 h2
  have hA := atomL_len s
  have hS := signL_len s
  have hlong : ∀ l : List Tm, l.length ≤ 5 → (((l.map Tm.wp).map fun x => x.1).map List.length).sum ≤ 60 * ns ks → (atomL s ++ ((40 : UInt8) :: (commaL ((l.map Tm.wp).map fun x : List UInt8 × List UInt8 => x.1) ++ [41]))).length + 2 ≤ 60 * (1 + ns ks) := by
    intro l hl h
    have := commaL_len ((l.map Tm.wp).map fun x => x.1)
    simp only [List.length_cons, List.length_append, List.length_nil, List.length_map] at *
    omega
  match ks, hk, hs0, hl, hlong with
  | [], _, hs0, _, hlong =>
    have := hlong [] (by simp) (by simp)
    simp only [List.map_nil, List.length_cons, List.length_append, List.length_nil] at *
    omega
  | [a], _, hs0, _, hlong =>
    have := hlong [a] (by simp) hs0
    simp only [List.map_cons, List.map_nil, List.length_cons, List.length_append, List.length_nil] at *
    omega
  | [a, b], hk, hs0, _, hlong =>
    have := hlong [a, b] (by simp) hs0
    have ka := hk a (by simp)
    have kb := hk b (by simp)
    have h3 : ns [a, b] = a.n + b.n := by simp [ns, Tm.n.ns]
    have e1 : a.wp.1 = a.wr := rfl
    have e2 : b.wp.1 = b.wr := rfl
    have e3 : b.wp.2 = b.tl := rfl
    rw [h3] at this hs0 ⊢
    simp only [List.map_cons, List.map_nil, e1, e2, e3] at *
    split
    · simp only [List.length_cons, List.length_append, List.length_nil] at *; omega
    · split
      · simp only [List.length_cons, List.length_append, List.length_nil] at *; omega
      · simp only [List.length_cons, List.length_append, List.length_nil] at *; omega
  | a :: b :: c :: r, _, hs0, hl, hlong =>
    have := hlong (a :: b :: c :: r) hl hs0
    simp only [List.map_cons, List.length_cons, List.length_append, List.length_nil] at *
    omega
end Go.Proofs.YtceclkcmiaehkaoDoor
