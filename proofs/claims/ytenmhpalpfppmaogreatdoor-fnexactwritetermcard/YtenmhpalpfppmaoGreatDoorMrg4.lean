/- Four texts in one. -/
import Derived.Test.YtenmhpalpfppmaoGreatDoorMrg3
import Derived.Test.YtenmhpalpfppmaoGreatDoorMrg2
import Derived.ProofKit
import Derived.Test.YtenmhpalpfppmaoGreatDoorMrg1
import Derived.Laws.Concat
/- Which terms are right: the plain rule. -/
namespace Go.Proofs.YtenmhpalpfppmaoGreatDoor
open Go.RowKit

def oneT (k : Int) (s : ByteArray) (n : Int) (l : Nat) : Bool :=
  if k = 1 then decide (0 ≤ n ∧ n ≤ 99999) && decide (s.size = 0) && decide (l = 0)
  else if k = 2 then nameOk s && decide (n = 0) && decide (l = 0)
  else if k = 3 then decide (-999999999 ≤ n ∧ n ≤ 999999999) && decide (s.size = 0) && decide (l = 0)
  else if k = 4 then nameOk s && decide (n = 0) && decide (1 ≤ l ∧ l ≤ 5)
  else false
def Tm.right : Tm → Nat → Bool
  | .mk k s n ks, d => decide (d ≤ 40) && oneT k s n ks.length && rights ks (d + 1)
where rights : List Tm → Nat → Bool
  | [], _ => true
  | t :: ts, d => t.right d && rights ts d
abbrev rights := Tm.right.rights
def Tm.ok (t : Tm) : Bool := decide (t.n ≤ 400) && t.right 1
theorem right_mk (k : Int) (s : ByteArray) (n : Int) (ks : List Tm) (d : Nat) : (Tm.mk k s n ks).right d = (decide (d ≤ 40) && oneT k s n ks.length && rights ks (d + 1)) := by simp [Tm.right, rights]
theorem rights_all (ks : List Tm) (d : Nat) : rights ks d = ks.all fun t => t.right d := by
  induction ks with
  | nil => rfl
  | cons t r ih => simp only [rights, Tm.right.rights, List.all_cons] at *; rw [ih]

theorem ret_bool {a b : Bool} (h : a = b) : Ending.returned (.bool a) = .returned (.bool b) := by rw [h]

theorem rights_take {ks : List Tm} {d j : Nat} (hj : j < ks.length) (h : rights (ks.take j) d = true) (h1 : ks[j].right d = true) : rights (ks.take (j + 1)) d = true := by
  rw [rights_all] at *
  rw [List.take_succ_eq_append_getElem hj, List.all_append, h]
  simp [h1]
theorem rights_no {ks : List Tm} {d j : Nat} (hj : j < ks.length) (h1 : ks[j].right d = false) : rights ks d = false := by
  rw [rights_all, List.all_eq_false]
  exact ⟨ks[j], List.getElem_mem hj, by simp [h1]⟩

theorem empty_of {s : ByteArray} (h : s.size = 0) : s = ⟨#[]⟩ := by
  apply ByteArray.ext
  exact Array.eq_empty_of_size_eq_zero h
theorem not_empty {s : ByteArray} (h : s.size ≠ 0) : ¬ s.toList = [] := by
  intro e
  apply h
  have := congrArg List.length e
  rw [ByteArray.toList_eq, Array.length_toList] at this
  exact this

theorem nat0 (l : Nat) : ((l : Int) == 0) = decide (l = 0) := by
  by_cases h : l = 0
  · subst h; rfl
  · rw [decide_eq_false h, beq_eq_false_iff_ne]; omega

theorem tm_shape {w : World} {t : Tm} {v : Value} (h : TmIn w t v) : ∃ k s n ao len cap, v = .agg #[.int .i64 k, .string s, .int .i64 n, .slice ao len cap] := by
  obtain ⟨k, s, n, ks⟩ := t
  unfold TmIn at h
  obtain ⟨ao, cap, rfl, _⟩ := h
  exact ⟨_, _, _, _, _, _, rfl⟩

end Go.Proofs.YtenmhpalpfppmaoGreatDoor

/- How terms are written, plain. Of no program. -/
namespace Go.Proofs.YtenmhpalpfppmaoGreatDoor
open Go.RowKit

/-- one name as it stands? -/
def asAtomB (s : ByteArray) : Bool :=
  decide (s.size ≤ 3000) && match sgs s 0 with | [x] => decide (x.kind = 1) && decide (x.text = s) | _ => false
def atomL (s : ByteArray) : List UInt8 := if asAtomB s then s.data.toList else 39 :: (s.data.toList ++ [39])
def isOpB (s : ByteArray) : Bool := (infixP s).isSome || (prefixP s).isSome
def cDot : ByteArray := ⟨#[46]⟩
def cNone : ByteArray := ⟨#[91, 93]⟩
def signL (s : ByteArray) : List UInt8 := if s.data.toList = [44] then [44] else atomL s

/-- parts with , between -/
def commaL : List (List UInt8) → List UInt8
  | [] => []
  | [x] => x
  | x :: y :: r => x ++ (44 :: commaL (y :: r))

def wrAtom (s : ByteArray) : List UInt8 :=
  if s = cNone then [91, 93] else if isOpB s then 40 :: (atomL s ++ [41]) else atomL s

/-- what is written of a term, and of it as the rest of a list, out of what is written of its kids -/
def wrMk (k : Int) (s : ByteArray) (n : Int) (ps : List (List UInt8 × List UInt8)) : List UInt8 × List UInt8 :=
  if k = 1 then (95 :: decI n, 124 :: ((95 :: decI n) ++ [93]))
  else if k = 3 then (decI n, 124 :: (decI n ++ [93]))
  else if k = 2 then (wrAtom s, if s = cNone then [93] else 124 :: (wrAtom s ++ [93]))
  else match ps with
    | [p, q] =>
      if s = cDot then (91 :: (p.1 ++ q.2), 44 :: (p.1 ++ q.2))
      else if (infixP s).isSome then
        let x := 40 :: (p.1 ++ (32 :: (signL s ++ (32 :: (q.1 ++ [41])))))
        (x, 124 :: (x ++ [93]))
      else
        let x := atomL s ++ (40 :: (commaL [p.1, q.1] ++ [41]))
        (x, 124 :: (x ++ [93]))
    | ps =>
      let x := atomL s ++ (40 :: (commaL (ps.map fun x => x.1) ++ [41]))
      (x, 124 :: (x ++ [93]))
def Tm.wp : Tm → List UInt8 × List UInt8
  | .mk k s n ks => wrMk k s n (wps ks)
where wps : List Tm → List (List UInt8 × List UInt8)
  | [] => []
  | t :: ts => t.wp :: wps ts
theorem wps_map (ks : List Tm) : Tm.wp.wps ks = ks.map Tm.wp := by
  induction ks with
  | nil => rfl
  | cons t r ih => simp [Tm.wp.wps, ih]
/-- what is written of a term -/
def Tm.wr (t : Tm) : List UInt8 := t.wp.1
/-- .. as the rest of a list -/
def Tm.tl (t : Tm) : List UInt8 := t.wp.2
theorem wp_mk (k : Int) (s : ByteArray) (n : Int) (ks : List Tm) : (Tm.mk k s n ks).wp = wrMk k s n (ks.map Tm.wp) := by rw [Tm.wp, wps_map]

theorem commaL_len (l : List (List UInt8)) : (commaL l).length ≤ (l.map List.length).sum + l.length := by
  induction l with
  | nil => simp [commaL]
  | cons x r ih =>
    cases r with
    | nil => simp [commaL]
    | cons y r => simp only [commaL, List.length_append, List.length_cons, List.map_cons, List.sum_cons] at *; omega

theorem decI_len (n : Int) (h : -999999999 ≤ n ∧ n ≤ 999999999) : (decI n).length ≤ 11 := by
  unfold decI
  split
  · have := decR_len 10 n.natAbs (by omega)
    simp only [List.length_cons]; omega
  · unfold decB
    split
    · simp
    · have := decR_len 10 n.toNat (by omega)
      omega

theorem atomL_len (s : ByteArray) : (atomL s).length ≤ s.size + 2 := by
  have e : s.data.toList.length = s.size := by rw [Array.length_toList]; rfl
  unfold atomL
  split
  · omega
  · simp only [List.length_cons, List.length_append, List.length_nil]; omega
theorem signL_len (s : ByteArray) : (signL s).length ≤ s.size + 2 := by
  unfold signL
  have := atomL_len s
  split
  · simp only [List.length_cons, List.length_nil]; omega
  · exact this
theorem wrAtom_len (s : ByteArray) : (wrAtom s).length ≤ s.size + 4 := by
  unfold wrAtom
  have := atomL_len s
  split
  · simp only [List.length_cons, List.length_nil]; omega
  · split
    · simp only [List.length_cons, List.length_append, List.length_nil]; omega
    · omega

/-- how long it is -/
theorem wp_len (t : Tm) : ∀ d, t.right d = true → t.wr.length ≤ 60 * t.n ∧ t.tl.length ≤ 60 * t.n := by
  refine tm_ind (p := fun t => ∀ d, t.right d = true → t.wr.length ≤ 60 * t.n ∧ t.tl.length ≤ 60 * t.n) ?_ t
  intro k s n ks hks d hr
  rw [right_mk, Bool.and_eq_true, Bool.and_eq_true, rights_all, List.all_eq_true] at hr
  obtain ⟨⟨_, ho⟩, hr⟩ := hr
  have hk : ∀ u ∈ ks, u.wr.length ≤ 60 * u.n ∧ u.tl.length ≤ 60 * u.n := fun u hu => hks u hu (d + 1) (hr u hu)
  have hsum : ∀ l : List Tm, (∀ u ∈ l, u.wr.length ≤ 60 * u.n ∧ u.tl.length ≤ 60 * u.n) → (((l.map Tm.wp).map fun x => x.1).map List.length).sum ≤ 60 * ns l := by
    intro l hl
    induction l with
    | nil => simp
    | cons u r ih =>
      have h1 := (hl u (by simp)).1
      have h2 := ih fun v hv => hl v (by simp [hv])
      have h3 : ns (u :: r) = u.n + ns r := by simp [ns, Tm.n.ns]
      simp only [List.map_cons, List.sum_cons, h3] at *
      have h4 : u.wp.1.length = u.wr.length := rfl
      omega
  have hs0 := hsum ks hk
  rw [n_mk]
  unfold oneT at ho
  unfold Tm.wr Tm.tl
  rw [wp_mk]
  unfold wrMk
  by_cases h1 : k = 1
  · rw [if_pos h1] at ho ⊢
    simp only [Bool.and_eq_true, decide_eq_true_eq] at ho
    have := decI_len n (by omega)
    simp only [List.length_cons, List.length_append, List.length_nil]; omega
  rw [if_neg h1] at ho ⊢
  by_cases h3 : k = 3
  · rw [if_neg (by omega), if_pos h3] at ho
    rw [if_pos h3]
    simp only [Bool.and_eq_true, decide_eq_true_eq] at ho
    have := decI_len n (by omega)
    simp only [List.length_cons, List.length_append, List.length_nil]; omega
  rw [if_neg h3]
  have hsz : s.size ≤ 20 ∧ (k ≠ 2 → ks.length ≤ 5) := by
    by_cases h2 : k = 2
    · rw [if_pos h2] at ho
      simp only [nameOk, Bool.and_eq_true, decide_eq_true_eq] at ho
      exact ⟨by omega, by omega⟩
    · rw [if_neg h2, if_neg h3] at ho
      split at ho
      · simp only [nameOk, Bool.and_eq_true, decide_eq_true_eq] at ho
        exact ⟨by omega, by omega⟩
      · cases ho
  obtain ⟨hs1, hs2⟩ := hsz
  by_cases h2 : k = 2
  · rw [if_pos h2]
    have := wrAtom_len s
    refine ⟨by show (wrAtom s).length ≤ _; omega, ?_⟩
    show (if s = cNone then [93] else 124 :: (wrAtom s ++ [93])).length ≤ _
    split <;> simp only [List.length_cons, List.length_append, List.length_nil] <;> omega
  rw [if_neg h2]
  have hl := hs2 h2
  have hA := atomL_len s
  have hS := signL_len s
  have hlong : ∀ l : List Tm, l.length ≤ 5 → (((l.map Tm.wp).map fun x => x.1).map List.length).sum ≤ 60 * ns ks → (atomL s ++ ((40 : UInt8) :: (commaL ((l.map Tm.wp).map fun x : List UInt8 × List UInt8 => x.1) ++ [41]))).length + 2 ≤ 60 * (1 + ns ks) := by
    intro l hl h
    have := commaL_len ((l.map Tm.wp).map fun x => x.1)
    simp only [List.length_cons, List.length_append, List.length_nil, List.length_map] at *
    omega
  match ks, hk, hs0, hl, hlong with
  | [], _, hs0, _, hlong =>
    have := hlong [] (by simp) (by simp)
    simp only [List.map_nil, List.length_cons, List.length_append, List.length_nil] at *
    omega
  | [a], _, hs0, _, hlong =>
    have := hlong [a] (by simp) hs0
    simp only [List.map_cons, List.map_nil, List.length_cons, List.length_append, List.length_nil] at *
    omega
  | [a, b], hk, hs0, _, hlong =>
    have := hlong [a, b] (by simp) hs0
    have ka := hk a (by simp)
    have kb := hk b (by simp)
    have h3 : ns [a, b] = a.n + b.n := by simp [ns, Tm.n.ns]
    have e1 : a.wp.1 = a.wr := rfl
    have e2 : b.wp.1 = b.wr := rfl
    have e3 : b.wp.2 = b.tl := rfl
    rw [h3] at this hs0 ⊢
    simp only [List.map_cons, List.map_nil, e1, e2, e3] at *
    split
    · simp only [List.length_cons, List.length_append, List.length_nil] at *; omega
    · split
      · simp only [List.length_cons, List.length_append, List.length_nil] at *; omega
      · simp only [List.length_cons, List.length_append, List.length_nil] at *; omega
  | a :: b :: c :: r, _, hs0, hl, hlong =>
    have := hlong (a :: b :: c :: r) hl hs0
    simp only [List.map_cons, List.length_cons, List.length_append, List.length_nil] at *
    omega
end Go.Proofs.YtenmhpalpfppmaoGreatDoor

/- The code's together and parted: texts one behind the other. -/
namespace Go.Proofs.YtenmhpalpfppmaoGreatDoor
open Go.RowKit

/-- texts in a row of cells -/
def TxtAt (w : World) (g off : Nat) (xs : List (List UInt8)) : Prop := ∀ j (hj : j < xs.length), w.cell? ⟨g, off + j, none⟩ = some (.string ⟨xs[j].toArray⟩)
theorem TxtAt.keep {w w' : World} {g off : Nat} {xs : List (List UInt8)} (h : TxtAt w g off xs) (hb : Below w.heap.size w w') : TxtAt w' g off xs := fun j hj => cell_keep (h j hj) hb

theorem flat_take {xs : List (List UInt8)} {j : Nat} (hj : j < xs.length) : (xs.take (j + 1)).flatten = (xs.take j).flatten ++ xs[j] := by
  rw [List.take_succ_eq_append_getElem hj, List.flatten_append, List.flatten_cons, List.flatten_nil, List.append_nil]
theorem flat_le {xs : List (List UInt8)} {j : Nat} (hj : j < xs.length) : (xs.take j).flatten.length + xs[j].length ≤ xs.flatten.length := by
  rw [← List.length_append, ← flat_take hj]
  conv => rhs; rw [← List.take_append_drop (j + 1) xs, List.flatten_append, List.length_append]
  omega

set_option maxHeartbeats 1000000 in
theorem tog_any (xs : List (List UInt8)) (g off : Nat) (n cap : Nat) (w : World) (hn : xs.length = n) (hx : TxtAt w g off xs) (hc : n ≤ cap) (hcap : cap ≤ maxLen) (hl : xs.flatten.length ≤ 1099511627776) :
    Calls Tryz.prog 26 #[.slice (some ⟨g, off, none⟩) n cap] w fun e w' => e = .returned (.string ⟨xs.flatten.toArray⟩) ∧ Below w.heap.size w w' := by
  unfold maxLen at hcap
  have HN : Hid (xs.length = n) := hn
  have HX : Hid (TxtAt w g off xs) := hx
  have HL : Hid (xs.flatten.length ≤ 1099511627776) := hl
  obtain ⟨W, hW⟩ : ∃ W, W = w.alloc (.cells #[.pointer none, .slice none 0 0] 74) := ⟨_, rfl⟩
  have HB0 : Hid (Lib.IsBuilder 74 5 w.heap.size w.heap.size (Lib.byteCells []) W) := by rw [hW]; exact fresh_builder w
  have HBW : Hid (Below w.heap.size w W) := by rw [hW]; exact (Below.refl _ _).alloc (Nat.le_refl _) _
  clear hn hx hl
  go_enter Tryz.func26, Tryz.ntmps26
  go_wp2
  rw [← hW]
  clear hW
  go_loopw [8] (fun vi wr => ∃ j : Nat, j ≤ n ∧ vi = .int .i64 (j : Int) ∧ Hid (Below w.heap.size w wr) ∧ Hid (Lib.IsBuilder 74 5 w.heap.size w.heap.size (Lib.byteCells (xs.take j).flatten) wr)) (fun vi _ => n - (intOf vi).toNat)
  case atStart => exact ⟨0, Nat.zero_le _, rfl, HBW.out, by rw [List.take_zero]; exact HB0.out⟩
  case round =>
    obtain ⟨j, hj, rfl, HB, HI⟩ := hrel
    by_cases hlt : j < n
    · have hjx : j < xs.length := by have := HN.out; omega
      have hcell := HX.out j hjx
      have hcell' : wr.cell? ⟨g, off + j, none⟩ = some (.string ⟨xs[j].toArray⟩) := cell_keep hcell HB.out
      have HT := flat_take hjx
      have HLE := flat_le hjx
      generalize xs[j] = x at *
      replace HT : Hid _ := HT
      have HLE' : Hid ((Lib.byteCells (xs.take j).flatten).length + x.length ≤ 1099511627776) := by show _ ≤ _; rw [byte_cells_len]; have := HL.out; omega
      clear HLE hjx hcell
      go_wp2_with (go_at_call 36; refine (write_string _ _ _ _ _ HI.out (by have := HLE'.out; simp [ByteArray.size] at *; omega) HB.out.size).mono ?_; rintro e w1 ⟨rfl, h1, b1⟩; have HI1 : Hid _ := h1; have HB1 : Hid (Below w.heap.size w w1) := HB.out.trans (b1.mono (Nat.le_refl _)); clear h1 b1)
      go_roundw
      case rel => exact ⟨j + 1, by omega, by go_num, HB1.out, by rw [HT.out, byte_cells_append]; have := HI1.out; rwa [str_cells] at this⟩
      case measure => simp [intOf]; omega
    · obtain rfl : j = n := by omega
      have HF : Hid (Lib.IsBuilder 74 5 w.heap.size w.heap.size (Lib.byteCells xs.flatten) wr) := by
        have := HI.out
        rwa [List.take_of_length_le (by rw [HN.out]; exact Nat.le_refl _)] at this
      clear HI
      go_wp2_with (go_at_call 37; refine (sh_Builder_String_any _ _ _ _ HF.out HB.out.size).mono ?_; rintro e w1 ⟨rfl, b1⟩; have HB1 : Hid (Below w.heap.size w w1) := HB.out.trans (b1.mono (Nat.le_refl _)); clear b1)
      go_ret
      exact ⟨rfl, HB1.out⟩
end Go.Proofs.YtenmhpalpfppmaoGreatDoor

/- Texts: unlike ones, joined ones, ones laid in a block. -/
namespace Go.Proofs.YtenmhpalpfppmaoGreatDoor
open Go.RowKit

theorem toL_ne2 {a b : ByteArray} (h : ¬ a = b) : (a.toList == b.toList) = false := by
  rw [beq_eq_false_iff_ne]
  intro e
  apply h
  rw [ByteArray.toList_eq, ByteArray.toList_eq] at e
  apply ByteArray.ext
  exact Array.toList_inj.1 e

theorem add_txt (a b : List UInt8) (h : a.length + b.length ≤ 1099511627776) (u : World) :
    (Op.stringOp .add ⟨a.toArray⟩ ⟨b.toArray⟩).run Tryz.prog u = .ok (.string ⟨(a ++ b).toArray⟩) u := by
  have h := run_string_add_sum (P := Tryz.prog) u ⟨a.toArray⟩ ⟨b.toArray⟩ (by rw [size_mk, size_mk]; omega)
  have e : (⟨a.toArray⟩ : ByteArray) ++ ⟨b.toArray⟩ = ⟨(a ++ b).toArray⟩ := by rw [ByteArray.mk_append_mk]
  rw [h, e]
theorem mk_data (s : ByteArray) : (⟨s.data.toList.toArray⟩ : ByteArray) = s := by simp

/-- texts laid in a new block -/
theorem txt_new (w : World) (xs : List (List UInt8)) : TxtAt (w.alloc (.cells (xs.map fun x => Value.string ⟨x.toArray⟩).toArray 9)) w.heap.size 0 xs := by
  intro j hj
  rw [Lib.cell_of_heap (heap_alloc_new w _)]
  simp [hj]

theorem txt1 (w : World) (a : List UInt8) : TxtAt (w.alloc (.cells #[Value.string ⟨a.toArray⟩] 9)) w.heap.size 0 [a] := txt_new w [a]
theorem txt2 (w : World) (a b : List UInt8) : TxtAt (w.alloc (.cells #[Value.string ⟨a.toArray⟩, Value.string ⟨b.toArray⟩] 9)) w.heap.size 0 [a, b] := txt_new w [a, b]
theorem txt3 (w : World) (a b c : List UInt8) : TxtAt (w.alloc (.cells #[Value.string ⟨a.toArray⟩, Value.string ⟨b.toArray⟩, Value.string ⟨c.toArray⟩] 9)) w.heap.size 0 [a, b, c] := txt_new w [a, b, c]
theorem txt5 (w : World) (a b c d e : List UInt8) : TxtAt (w.alloc (.cells #[Value.string ⟨a.toArray⟩, Value.string ⟨b.toArray⟩, Value.string ⟨c.toArray⟩, Value.string ⟨d.toArray⟩, Value.string ⟨e.toArray⟩] 9)) w.heap.size 0 [a, b, c, d, e] := txt_new w [a, b, c, d, e]
theorem tog1 (x1 : List UInt8) (h : x1.length ≤ 1000000) (w : World) :
    Calls Tryz.prog 26 #[.slice (some ⟨w.heap.size, 0, none⟩) 1 1] (w.alloc (.cells #[.string ⟨x1.toArray⟩] 9)) fun e w' => e = .returned (.string ⟨(x1).toArray⟩) ∧ Below w.heap.size w w' := by
  refine (tog_any [x1] w.heap.size 0 1 1 _ rfl (txt1 w x1) (Nat.le_refl _) (by unfold maxLen; omega) (by simp only [List.flatten_cons, List.flatten_nil, List.append_nil]; omega)).mono ?_
  rintro e w' ⟨rfl, hb⟩
  exact ⟨by simp only [List.flatten_cons, List.flatten_nil, List.append_nil], ((Below.refl _ _).alloc (Nat.le_refl _) _).trans (hb.mono (by simp))⟩
theorem tog2 (x1 x2 : List UInt8) (h : x1.length + x2.length ≤ 1000000) (w : World) :
    Calls Tryz.prog 26 #[.slice (some ⟨w.heap.size, 0, none⟩) 2 2] (w.alloc (.cells #[.string ⟨x1.toArray⟩, .string ⟨x2.toArray⟩] 9)) fun e w' => e = .returned (.string ⟨(x1 ++ x2).toArray⟩) ∧ Below w.heap.size w w' := by
  refine (tog_any [x1, x2] w.heap.size 0 2 2 _ rfl (txt2 w x1 x2) (Nat.le_refl _) (by unfold maxLen; omega) (by simp only [List.flatten_cons, List.flatten_nil, List.append_nil, List.length_append]; omega)).mono ?_
  rintro e w' ⟨rfl, hb⟩
  exact ⟨by simp only [List.flatten_cons, List.flatten_nil, List.append_nil], ((Below.refl _ _).alloc (Nat.le_refl _) _).trans (hb.mono (by simp))⟩
theorem tog3 (x1 x2 x3 : List UInt8) (h : x1.length + x2.length + x3.length ≤ 1000000) (w : World) :
    Calls Tryz.prog 26 #[.slice (some ⟨w.heap.size, 0, none⟩) 3 3] (w.alloc (.cells #[.string ⟨x1.toArray⟩, .string ⟨x2.toArray⟩, .string ⟨x3.toArray⟩] 9)) fun e w' => e = .returned (.string ⟨(x1 ++ x2 ++ x3).toArray⟩) ∧ Below w.heap.size w w' := by
  refine (tog_any [x1, x2, x3] w.heap.size 0 3 3 _ rfl (txt3 w x1 x2 x3) (Nat.le_refl _) (by unfold maxLen; omega) (by simp only [List.flatten_cons, List.flatten_nil, List.append_nil, List.length_append]; omega)).mono ?_
  rintro e w' ⟨rfl, hb⟩
  exact ⟨by simp only [List.flatten_cons, List.flatten_nil, List.append_nil, List.append_assoc], ((Below.refl _ _).alloc (Nat.le_refl _) _).trans (hb.mono (by simp))⟩
theorem txt4 (w : World) (x1 x2 x3 x4 : List UInt8) : TxtAt (w.alloc (.cells #[.string ⟨x1.toArray⟩, .string ⟨x2.toArray⟩, .string ⟨x3.toArray⟩, .string ⟨x4.toArray⟩] 9)) w.heap.size 0 [x1, x2, x3, x4] := txt_new w [x1, x2, x3, x4]
theorem tog4 (x1 x2 x3 x4 : List UInt8) (h : x1.length + x2.length + x3.length + x4.length ≤ 1000000) (w : World) :
    Calls Tryz.prog 26 #[.slice (some ⟨w.heap.size, 0, none⟩) 4 4] (w.alloc (.cells #[.string ⟨x1.toArray⟩, .string ⟨x2.toArray⟩, .string ⟨x3.toArray⟩, .string ⟨x4.toArray⟩] 9)) fun e w' => e = .returned (.string ⟨(x1 ++ x2 ++ x3 ++ x4).toArray⟩) ∧ Below w.heap.size w w' := by
  refine (tog_any [x1, x2, x3, x4] w.heap.size 0 4 4 _ rfl (txt4 w x1 x2 x3 x4) (Nat.le_refl _) (by unfold maxLen; omega) (by simp only [List.flatten_cons, List.flatten_nil, List.append_nil, List.length_append]; omega)).mono ?_
  rintro e w' ⟨rfl, hb⟩
  exact ⟨by simp only [List.flatten_cons, List.flatten_nil, List.append_nil, List.append_assoc], ((Below.refl _ _).alloc (Nat.le_refl _) _).trans (hb.mono (by simp))⟩
theorem tog5 (x1 x2 x3 x4 x5 : List UInt8) (h : x1.length + x2.length + x3.length + x4.length + x5.length ≤ 1000000) (w : World) :
    Calls Tryz.prog 26 #[.slice (some ⟨w.heap.size, 0, none⟩) 5 5] (w.alloc (.cells #[.string ⟨x1.toArray⟩, .string ⟨x2.toArray⟩, .string ⟨x3.toArray⟩, .string ⟨x4.toArray⟩, .string ⟨x5.toArray⟩] 9)) fun e w' => e = .returned (.string ⟨(x1 ++ x2 ++ x3 ++ x4 ++ x5).toArray⟩) ∧ Below w.heap.size w w' := by
  refine (tog_any [x1, x2, x3, x4, x5] w.heap.size 0 5 5 _ rfl (txt5 w x1 x2 x3 x4 x5) (Nat.le_refl _) (by unfold maxLen; omega) (by simp only [List.flatten_cons, List.flatten_nil, List.append_nil, List.length_append]; omega)).mono ?_
  rintro e w' ⟨rfl, hb⟩
  exact ⟨by simp only [List.flatten_cons, List.flatten_nil, List.append_nil, List.append_assoc], ((Below.refl _ _).alloc (Nat.le_refl _) _).trans (hb.mono (by simp))⟩
theorem txt7 (w : World) (x1 x2 x3 x4 x5 x6 x7 : List UInt8) : TxtAt (w.alloc (.cells #[.string ⟨x1.toArray⟩, .string ⟨x2.toArray⟩, .string ⟨x3.toArray⟩, .string ⟨x4.toArray⟩, .string ⟨x5.toArray⟩, .string ⟨x6.toArray⟩, .string ⟨x7.toArray⟩] 9)) w.heap.size 0 [x1, x2, x3, x4, x5, x6, x7] := txt_new w [x1, x2, x3, x4, x5, x6, x7]
theorem tog7 (x1 x2 x3 x4 x5 x6 x7 : List UInt8) (h : x1.length + x2.length + x3.length + x4.length + x5.length + x6.length + x7.length ≤ 1000000) (w : World) :
    Calls Tryz.prog 26 #[.slice (some ⟨w.heap.size, 0, none⟩) 7 7] (w.alloc (.cells #[.string ⟨x1.toArray⟩, .string ⟨x2.toArray⟩, .string ⟨x3.toArray⟩, .string ⟨x4.toArray⟩, .string ⟨x5.toArray⟩, .string ⟨x6.toArray⟩, .string ⟨x7.toArray⟩] 9)) fun e w' => e = .returned (.string ⟨(x1 ++ x2 ++ x3 ++ x4 ++ x5 ++ x6 ++ x7).toArray⟩) ∧ Below w.heap.size w w' := by
  refine (tog_any [x1, x2, x3, x4, x5, x6, x7] w.heap.size 0 7 7 _ rfl (txt7 w x1 x2 x3 x4 x5 x6 x7) (Nat.le_refl _) (by unfold maxLen; omega) (by simp only [List.flatten_cons, List.flatten_nil, List.append_nil, List.length_append]; omega)).mono ?_
  rintro e w' ⟨rfl, hb⟩
  exact ⟨by simp only [List.flatten_cons, List.flatten_nil, List.append_nil, List.append_assoc], ((Below.refl _ _).alloc (Nat.le_refl _) _).trans (hb.mono (by simp))⟩
end Go.Proofs.YtenmhpalpfppmaoGreatDoor
