import Derived.Test.YtbkjcccbjnehbanGreatDoorMh19
import Derived.Test.YtbkjcccbjnehbanGreatDoorMh1
import Derived.Test.YtbkjcccbjnehbanGreatDoorMh2
import Derived.ProofKit
import Derived.WalkKit
import Derived.Test.YtbkjcccbjnehbanGreatDoorRows
import Derived.WalkSpells
import Derived.Below
namespace Go.Proofs.YtbkjcccbjnehbanGreatDoor
section
variable (E : Sg) (tl : List Sg) (hE : E.kind = 5)
def ext (s : St) : St := ⟨s.rest ++ E :: tl, s.names⟩
def ExtOk (tm : Int → St → Option (Tm × St)) : Prop := ∀ m s, tm m (ext E tl s) = (tm m s).map fun y => (y.1, ext E tl y.2)
include hE
theorem mk_ext (l : ByteArray) (r : List Sg) : mk? l (r ++ E :: tl) = (mk? l r).map (· ++ E :: tl) := by
 cases r with
 | nil => simp only [List.nil_append, mk?]; rw [if_neg (by rw [hE]; omega)]; rfl
 | cons x r => simp only [List.cons_append, mk?]; split <;> rfl
theorem infix_ext (r : List Sg) : infixO (r ++ E :: tl) = infixO r := by
 cases r with
 | nil => simp only [List.nil_append, infixO]; rw [if_neg (by rw [hE]; omega), if_neg (by rw [hE]; omega)]
 | cons x r => rfl
theorem near_ext (x : Sg) (r : List Sg) : nearO x (r ++ E :: tl) = nearO x r := by
 cases r with
 | nil => simp [nearO, hE]
 | cons u r => rfl
theorem alone_ext (r : List Sg) : aloneO (r ++ E :: tl) = (aloneO r).map fun y => (y.1, y.2 ++ E :: tl) := by
 match r with
 | [] =>
   cases tl with
   | nil => rfl
   | cons u tl => simp only [List.nil_append, aloneO]; rw [if_neg (by rw [hE]; omega)]; rfl
 | [x] => simp only [List.cons_append, List.nil_append, aloneO]; rw [if_neg (by rw [hE]; omega)]; rfl
 | x :: u :: r => simp only [List.cons_append, aloneO]; split <;> rfl
theorem some_ext {five : Bool} {tm : Int → St → Option (Tm × St)} (ht : Short tm) (h : ExtOk E tl tm) : ∀ (n : Nat) (ks : List Tm) (s : St), s.rest.length ≤ n → someO five tm ks (ext E tl s) = (someO five tm ks s).map fun y => (y.1, ext E tl y.2) := by
 intro n
 induction n with
 | zero =>
   intro ks s hs
   have no : tm 999 s = none := by
     cases hy : tm 999 s with
     | none => rfl
     | some y => have := ht _ _ y.1 y.2 hy; omega
   rw [someO_eq ht, someO_eq ht, h, no]; rfl
 | succ n ih =>
   intro ks s hs
   rw [someO_eq ht, someO_eq ht, h]
   cases hy : tm 999 s with
   | none => rfl
   | some y =>
     obtain ⟨x, s1⟩ := y
     have hsh := ht _ _ _ _ hy
     simp only [Option.map_some, ext]
     split
     · rfl
     · rw [mk_ext E tl hE]
       cases hr : mk? cRpar s1.rest with
       | some r => rfl
       | none =>
         simp only [Option.map_none]
         rw [mk_ext E tl hE]
         cases hc : mk? cComma s1.rest with
         | none => rfl
         | some r =>
           simp only [Option.map_some]
           have := mk?_len hc
           exact ih (ks ++ [x]) ⟨r, s1.names⟩ (by simp only; omega)
theorem row_ext {tm : Int → St → Option (Tm × St)} (ht : Short tm) (h : ExtOk E tl tm) : ∀ (n : Nat) (ks : List Tm) (s : St), s.rest.length ≤ n → rowO tm ks (ext E tl s) = (rowO tm ks s).map fun y => (y.1, y.2.1, ext E tl y.2.2) := by
 intro n
 induction n with
 | zero =>
   intro ks s hs
   have no : tm 999 s = none := by
     cases hy : tm 999 s with
     | none => rfl
     | some y => have := ht _ _ y.1 y.2 hy; omega
   rw [rowO_eq ht, rowO_eq ht, h, no]; rfl
 | succ n ih =>
   intro ks s hs
   rw [rowO_eq ht, rowO_eq ht, h]
   cases hy : tm 999 s with
   | none => rfl
   | some y =>
     obtain ⟨x, s1⟩ := y
     have hsh := ht _ _ _ _ hy
     simp only [Option.map_some, ext]
     rw [mk_ext E tl hE]
     cases hr : mk? cRbr s1.rest with
     | some r => rfl
     | none =>
       simp only [Option.map_none]
       rw [mk_ext E tl hE]
       cases hb : mk? cBar s1.rest with
       | some r =>
         simp only [Option.map_some]
         have h2 := h 999 ⟨r, s1.names⟩
         simp only [ext] at h2
         rw [h2]
         cases hz : tm 999 ⟨r, s1.names⟩ with
         | none => rfl
         | some z =>
           obtain ⟨y, s2⟩ := z
           simp only [Option.map_some]
           rw [mk_ext E tl hE]
           cases mk? cRbr s2.rest <;> rfl
       | none =>
         simp only [Option.map_none]
         rw [mk_ext E tl hE]
         cases hc : mk? cComma s1.rest with
         | none => rfl
         | some r =>
           simp only [Option.map_some]
           have := mk?_len hc
           exact ih (ks ++ [x]) ⟨r, s1.names⟩ (by simp only; omega)
theorem inf_ext {tm : Int → St → Option (Tm × St)} (ht : Short tm) (h : ExtOk E tl tm) (most : Int) : ∀ (n : Nat) (t : Tm) (pr : Int) (s : St), s.rest.length ≤ n → infO tm most t pr (ext E tl s) = (infO tm most t pr s).map fun y => (y.1, ext E tl y.2) := by
 intro n
 induction n with
 | zero =>
   intro t pr s hs
   have e : s.rest = [] := List.eq_nil_of_length_eq_zero (by omega)
   rw [infO_eq ht, infO_eq ht]
   have e1 : infixO (ext E tl s).rest = none := by show infixO (s.rest ++ E :: tl) = none; rw [infix_ext E tl hE, e]; rfl
   rw [e1, e]; rfl
 | succ n ih =>
   intro t pr s hs
   rw [infO_eq ht, infO_eq ht]
   have e1 : infixO (ext E tl s).rest = infixO s.rest := infix_ext E tl hE s.rest
   rw [e1]
   cases hi : infixO s.rest with
   | none => rfl
   | some op =>
     simp only
     split
     · rfl
     · have e2 : (⟨(ext E tl s).rest.tail, (ext E tl s).names⟩ : St) = ext E tl ⟨s.rest.tail, s.names⟩ := by
         cases hr : s.rest with
         | nil => rw [hr] at hi; cases hi
         | cons x r => simp [ext, hr]
       rw [e2, h]
       cases hy : tm op.right ⟨s.rest.tail, s.names⟩ with
       | none => rfl
       | some y =>
         obtain ⟨y, s1⟩ := y
         have hsh := ht _ _ _ _ hy
         simp only [List.length_tail] at hsh
         exact ih _ _ s1 (by omega)
theorem round_ext {tm : Int → St → Option (Tm × St)} (h : ExtOk E tl tm) (r : List Sg) (names : List ByteArray) : roundO tm (r ++ E :: tl) names = (roundO tm r names).map fun y => (y.1, ext E tl y.2) := by
 unfold roundO
 rw [alone_ext E tl hE]
 cases aloneO r with
 | some y => rfl
 | none =>
   simp only [Option.map_none]
   have h2 := h 1200 ⟨r, names⟩
   simp only [ext] at h2
   rw [h2]
   cases tm 1200 ⟨r, names⟩ with
   | none => rfl
   | some y =>
     simp only [Option.map_some]
     rw [mk_ext E tl hE]
     cases mk? cRpar y.2.rest <;> rfl
theorem list_ext {tm : Int → St → Option (Tm × St)} (ht : Short tm) (h : ExtOk E tl tm) (r : List Sg) (names : List ByteArray) : listO tm (r ++ E :: tl) names = (listO tm r names).map fun y => (y.1, ext E tl y.2) := by
 unfold listO
 rw [mk_ext E tl hE]
 cases mk? cRbr r with
 | some r' => rfl
 | none =>
   simp only [Option.map_none]
   have h2 := row_ext E tl hE ht h _ [] ⟨r, names⟩ (Nat.le_refl _)
   have e : ext E tl ⟨r, names⟩ = ⟨r ++ E :: tl, names⟩ := rfl
   rw [e] at h2
   rw [h2]
   cases rowO tm [] ⟨r, names⟩ <;> rfl
theorem atom_ext {five : Bool} {tm : Int → St → Option (Tm × St)} (ht : Short tm) (h : ExtOk E tl tm) (most : Int) (x : Sg) (r : List Sg) (names : List ByteArray) : atomO five tm most x (r ++ E :: tl) names = (atomO five tm most x r names).map fun y => (y.1, y.2.1, ext E tl y.2.2) := by
 unfold atomO
 split
 · rw [mk_ext E tl hE]
   cases mk? cLpar r with
   | none => rfl
   | some r' =>
     simp only [Option.map_some]
     have h2 := some_ext E tl hE (five := five) ht h _ [] ⟨r', names⟩ (Nat.le_refl _)
     have e : ext E tl ⟨r', names⟩ = ⟨r' ++ E :: tl, names⟩ := rfl
     rw [e] at h2
     rw [h2]
     cases someO five tm [] ⟨r', names⟩ <;> rfl
 · rw [near_ext E tl hE]
   split
   · rename_i hc
     cases r with
     | nil => simp [nearO] at hc
     | cons u r => rfl
   · cases prefixP x.text with
     | none => simp only; split <;> rfl
     | some op =>
       simp only
       split
       · have h2 := h op.right ⟨r, names⟩
         have e : ext E tl ⟨r, names⟩ = ⟨r ++ E :: tl, names⟩ := rfl
         rw [e] at h2
         rw [h2]
         cases tm op.right ⟨r, names⟩ <;> rfl
       · rfl
theorem prim_ext {five : Bool} {tm : Int → St → Option (Tm × St)} (ht : Short tm) (h : ExtOk E tl tm) (most : Int) (s : St) : primO five tm most (ext E tl s) = (primO five tm most s).map fun y => (y.1, y.2.1, ext E tl y.2.2) := by
 obtain ⟨rest, names⟩ := s
 cases rest with
 | nil =>
   show primO five tm most ⟨E :: tl, names⟩ = _
   simp only [primO, hE]
   rw [if_neg (by omega), if_neg (by omega), if_neg (by omega), if_neg (by omega), if_neg (by omega)]
   rfl
 | cons x r =>
   show primO five tm most ⟨x :: (r ++ E :: tl), names⟩ = _
   simp only [primO]
   split
   · exact atom_ext E tl hE ht h most x r names
   · split
     · rw [round_ext E tl hE h]
       cases roundO tm r names <;> rfl
     · split
       · rw [list_ext E tl hE ht h]
         cases listO tm r names <;> rfl
       · split
         · rfl
         · split <;> rfl
theorem term_ext (five : Bool) : ∀ d, ExtOk E tl (termO five d)
 | 0 => fun m s => rfl
 | d + 1 => fun m s => by
   have ih := term_ext five d
   have ht := termO_short five d
   unfold termO
   rw [prim_ext E tl hE ht ih]
   cases primO five (termO five d) m s with
   | none => rfl
   | some q =>
     obtain ⟨t, pr, s1⟩ := q
     exact inf_ext E tl hE ht ih m _ t pr s1 (Nat.le_refl _)
end
end Go.Proofs.YtbkjcccbjnehbanGreatDoor

namespace Go.Proofs.YtbkjcccbjnehbanGreatDoor
def Tm.n : Tm → Nat
 | .mk _ _ _ ks => 1 + ns ks
where ns : List Tm → Nat
 | [] => 0
 | t :: ts => t.n + ns ts
abbrev ns := Tm.n.ns
theorem ns_append (l m : List Tm) : ns (l ++ m) = ns l + ns m := by
 induction l with
 | nil => simp [ns, Tm.n.ns]
 | cons t r ih => simp only [List.cons_append, ns, Tm.n.ns] at *; omega
theorem n_mk (k : Int) (s : ByteArray) (m : Int) (ks : List Tm) : (Tm.mk k s m ks).n = 1 + ns ks := by simp [Tm.n, ns]
theorem ns_take_le (ks : List Tm) (j : Nat) : ns (ks.take j) ≤ ns ks := by
 have : ns (ks.take j) + ns (ks.drop j) = ns ks := by rw [← ns_append, List.take_append_drop]
 omega
end Go.Proofs.YtbkjcccbjnehbanGreatDoor

namespace Go.Proofs.YtbkjcccbjnehbanGreatDoor
open Go.RowKit
def oneT (k : Int) (s : ByteArray) (n : Int) (l : Nat) : Bool :=
 if k = 1 then decide (0 ≤ n ∧ n ≤ 99999) && decide (s.size = 0) && decide (l = 0)
 else if k = 2 then nameOk s && decide (n = 0) && decide (l = 0)
 else if k = 3 then decide (-999999999 ≤ n ∧ n ≤ 999999999) && decide (s.size = 0) && decide (l = 0)
 else if k = 4 then nameOk s && decide (n = 0) && decide (1 ≤ l ∧ l ≤ 5)
 else false
def Tm.right : Tm → Nat → Bool
 | .mk k s n ks, d => decide (d ≤ 40) && oneT k s n ks.length && rights ks (d + 1)
where rights : List Tm → Nat → Bool
 | [], _ => true
 | t :: ts, d => t.right d && rights ts d
abbrev rights := Tm.right.rights
def Tm.ok (t : Tm) : Bool := decide (t.n ≤ 400) && t.right 1
theorem right_mk (k : Int) (s : ByteArray) (n : Int) (ks : List Tm) (d : Nat) : (Tm.mk k s n ks).right d = (decide (d ≤ 40) && oneT k s n ks.length && rights ks (d + 1)) := by simp [Tm.right, rights]
theorem rights_all (ks : List Tm) (d : Nat) : rights ks d = ks.all fun t => t.right d := by
 induction ks with
 | nil => rfl
 | cons t r ih => simp only [rights, Tm.right.rights, List.all_cons] at *; rw [ih]
theorem ret_bool {a b : Bool} (h : a = b) : Ending.returned (.bool a) = .returned (.bool b) := by rw [h]
theorem rights_take {ks : List Tm} {d j : Nat} (hj : j < ks.length) (h : rights (ks.take j) d = true) (h1 : ks[j].right d = true) : rights (ks.take (j + 1)) d = true := by
 rw [rights_all] at *
 rw [List.take_succ_eq_append_getElem hj, List.all_append, h]
 simp [h1]
theorem rights_no {ks : List Tm} {d j : Nat} (hj : j < ks.length) (h1 : ks[j].right d = false) : rights ks d = false := by
 rw [rights_all, List.all_eq_false]
 exact ⟨ks[j], List.getElem_mem hj, by simp [h1]⟩
theorem empty_of {s : ByteArray} (h : s.size = 0) : s = ⟨#[]⟩ := by
 apply ByteArray.ext
 exact Array.eq_empty_of_size_eq_zero h
theorem not_empty {s : ByteArray} (h : s.size ≠ 0) : ¬ s.toList = [] := by
 intro e
 apply h
 have := congrArg List.length e
 rw [ByteArray.toList_eq, Array.length_toList] at this
 exact this
theorem nat0 (l : Nat) : ((l : Int) == 0) = decide (l = 0) := by
 by_cases h : l = 0
 · subst h; rfl
 · rw [decide_eq_false h, beq_eq_false_iff_ne]; omega
theorem tm_shape {w : World} {t : Tm} {v : Value} (h : TmIn w t v) : ∃ k s n ao len cap, v = .agg #[.int .i64 k, .string s, .int .i64 n, .slice ao len cap] := by
 obtain ⟨k, s, n, ks⟩ := t
 unfold TmIn at h
 obtain ⟨ao, cap, rfl, _⟩ := h
 exact ⟨_, _, _, _, _, _, rfl⟩
end Go.Proofs.YtbkjcccbjnehbanGreatDoor

namespace Go.Proofs.YtbkjcccbjnehbanGreatDoor
theorem Fat.not_right {t : Tm} (h : Fat t) : ∀ d, t.right d = false := by
 induction h with
 | wide k s n ks hk =>
   intro d
   rw [right_mk]
   have : oneT k s n ks.length = false := by
     unfold oneT
     split
     · rw [decide_eq_false (show ¬ ks.length = 0 by omega)]; simp
     split
     · rw [decide_eq_false (show ¬ ks.length = 0 by omega)]; simp
     split
     · rw [decide_eq_false (show ¬ ks.length = 0 by omega)]; simp
     split
     · rw [decide_eq_false (show ¬ (1 ≤ ks.length ∧ ks.length ≤ 5) by omega)]; simp
     · rfl
   rw [this]; simp
 | kid k s n ks t ht _ ih =>
   intro d
   rw [right_mk, rights_all]
   have : (ks.all fun t => t.right (d + 1)) = false := by rw [List.all_eq_false]; exact ⟨t, ht, by simp [ih (d + 1)]⟩
   rw [this]; simp
theorem Fat.not_ok {t : Tm} (h : Fat t) : t.ok = false := by unfold Tm.ok; rw [h.not_right 1]; simp
def readS (rest : List Sg) : Option (Tm × List ByteArray × List Sg) :=
 match termO true 130 1200 ⟨rest, []⟩ with
 | some (t, ⟨x :: r, names⟩) => if x.kind = 5 ∧ t.ok = true then some (t, names, r) else none
 | _ => none
def readI (ahead : List Sg) : Option (Tm × List ByteArray) :=
 match termO false 130 1200 ⟨ahead, []⟩ with
 | some (t, ⟨[], names⟩) => if t.ok = true then some (t, names) else none
 | _ => none
def NoEnd (r : List Sg) : Prop := ∀ x ∈ r, x.kind ≠ 5
def Sub (tm : Int → St → Option (Tm × St)) : Prop := ∀ m s t s', tm m s = some (t, s') → ∀ x ∈ s'.rest, x ∈ s.rest
theorem mk?_mem {l : ByteArray} {r r' : List Sg} (h : mk? l r = some r') : ∀ x ∈ r', x ∈ r := by
 obtain ⟨y, rfl, _⟩ := mk?_cons h
 exact fun x hx => List.mem_cons_of_mem _ hx
theorem someO_sub {five : Bool} {tm : Int → St → Option (Tm × St)} (ht : Sub tm) (ks : List Tm) (s : St) : ∀ ks' s', someO five tm ks s = some (ks', s') → ∀ x ∈ s'.rest, x ∈ s.rest := by
 fun_induction someO five tm ks s <;> intro ks' s' h
 all_goals first | cases h | skip
 · rename_i x s1 hx _ _ _ hr; exact fun y hy => ht _ _ _ _ hx y (mk?_mem hr y hy)
 · rename_i x s1 hx _ _ _ r hr ih; exact fun y hy => ht _ _ _ _ hx y (mk?_mem hr y (ih _ _ h y hy))
theorem rowO_sub {tm : Int → St → Option (Tm × St)} (ht : Sub tm) (ks : List Tm) (s : St) : ∀ ks' y s', rowO tm ks s = some (ks', y, s') → ∀ x ∈ s'.rest, x ∈ s.rest := by
 fun_induction rowO tm ks s <;> intro ks' y' s' h
 all_goals first | cases h | skip
 · rename_i x s1 hx _ r hr; exact fun y hy => ht _ _ _ _ hx y (mk?_mem hr y hy)
 · rename_i x s1 hx _ _ r hb y s2 hy r2 hr
   exact fun z hz => ht _ _ _ _ hx z (mk?_mem hb z (ht _ _ _ _ hy z (mk?_mem hr z hz)))
 · rename_i x s1 hx _ _ _ r hr ih; exact fun y hy => ht _ _ _ _ hx y (mk?_mem hr y (ih _ _ _ h y hy))
theorem infO_sub {tm : Int → St → Option (Tm × St)} (ht : Sub tm) (most : Int) (t : Tm) (pr : Int) (s : St) : ∀ t' s', infO tm most t pr s = some (t', s') → ∀ x ∈ s'.rest, x ∈ s.rest := by
 fun_induction infO tm most t pr s <;> intro t' s' h
 all_goals first | (cases h; exact fun x hx => hx) | cases h | skip
 rename_i y s1 hy _ ih
 exact fun z hz => List.mem_of_mem_tail (ht _ _ _ _ hy z (ih _ _ h z hz))
theorem prim_sub {five : Bool} {tm : Int → St → Option (Tm × St)} (ht : Sub tm) {most : Int} {s : St} {y : Tm × Int × St} (h : primO five tm most s = some y) : ∀ x ∈ y.2.2.rest, x ∈ s.rest := by
 unfold primO at h
 split at h
 · cases h
 · rename_i x r e
   rw [e]
   have up : ∀ z, z ∈ r → z ∈ x :: r := fun z hz => List.mem_cons_of_mem _ hz
   split at h
   · unfold atomO at h
     split at h
     · split at h
       · cases h
       · rename_i hr
         split at h
         · cases h
         · rename_i hs; cases h; exact fun z hz => up z (mk?_mem hr z (someO_sub ht _ _ _ _ hs z hz))
     · split at h
       · cases h; exact fun z hz => up z (List.mem_of_mem_tail hz)
       · split at h
         · split at h
           · split at h
             · cases h
             · rename_i hy; cases h; exact fun z hz => up z (ht _ _ _ _ hy z hz)
           · cases h
         · split at h
           · cases h
           · cases h; exact up
   · split at h
     · obtain ⟨z, hz, rfl⟩ := Option.map_eq_some_iff.1 h
       unfold roundO at hz
       split at hz
       · rename_i ha
         cases hz
         unfold aloneO at ha
         split at ha
         · split at ha
           · cases ha; exact fun z hz => up z (List.mem_cons_of_mem _ (List.mem_cons_of_mem _ hz))
           · cases ha
         · cases ha
       · split at hz
         · cases hz
         · rename_i hy
           split at hz
           · rename_i hr; cases hz; exact fun z hz => up z (ht _ _ _ _ hy z (mk?_mem hr z hz))
           · cases hz
     · split at h
       · obtain ⟨z, hz, rfl⟩ := Option.map_eq_some_iff.1 h
         unfold listO at hz
         split at hz
         · rename_i hr; cases hz; exact fun z hz => up z (mk?_mem hr z hz)
         · split at hz
           · cases hz
           · rename_i hy; cases hz; exact fun z hz => up z (rowO_sub ht _ _ _ _ _ hy z hz)
       · split at h
         · cases h; exact up
         · split at h
           · cases h; exact up
           · cases h
theorem term_sub (five : Bool) : ∀ d, Sub (termO five d)
 | 0, m, s, t, s', h => by unfold termO at h; cases h
 | d + 1, m, s, t, s', h => by
   unfold termO at h
   split at h
   · cases h
   · rename_i hp
     exact fun x hx => prim_sub (term_sub five d) hp x (infO_sub (term_sub five d) _ _ _ _ _ _ h x hx)
theorem read_same {ahead tl : List Sg} {E : Sg} (hE : E.kind = 5) (hn : NoEnd ahead) : readS (ahead ++ E :: tl) = (readI ahead).map fun y => (y.1, y.2, tl) := by
 have h := term_ext E tl hE true 130 1200 ⟨ahead, []⟩
 have e : ext E tl ⟨ahead, []⟩ = ⟨ahead ++ E :: tl, []⟩ := rfl
 rw [e] at h
 unfold readS readI
 rw [h]
 obtain ⟨h1, h2⟩ := term_five 130 1200 ⟨ahead, []⟩
 cases ha : termO true 130 1200 ⟨ahead, []⟩ with
 | none =>
   simp only [Option.map_none]
   cases hb : termO false 130 1200 ⟨ahead, []⟩ with
   | none => rfl
   | some q =>
     obtain ⟨t, ⟨rest, names⟩⟩ := q
     cases rest with
     | nil => simp only; rw [(h2 ha t _ hb).not_ok]; rfl
     | cons x r => rfl
 | some q =>
   rw [h1 q ha]
   obtain ⟨t, ⟨rest, names⟩⟩ := q
   cases rest with
   | nil =>
     simp only [Option.map_some, ext, List.nil_append, hE, true_and]
     split <;> rfl
   | cons x r =>
     simp only [Option.map_some, ext, List.cons_append]
     have hx : x.kind ≠ 5 := hn x (term_sub true 130 1200 ⟨ahead, []⟩ t _ ha x List.mem_cons_self)
     rw [if_neg (fun h => hx h.1)]
     rfl
end Go.Proofs.YtbkjcccbjnehbanGreatDoor

namespace Go.Proofs.YtbkjcccbjnehbanGreatDoor
def szR (n : Nat) (left : Nat) : Int := if n ≤ left then ((left - n : Nat) : Int) else -1
end Go.Proofs.YtbkjcccbjnehbanGreatDoor

namespace Go.Proofs.YtbkjcccbjnehbanGreatDoor
open Go.RowKit
def CntOk (t : Tm) : Prop := ∀ (w : World) (v : Value) (room : Nat), TmIn w t v → room ≤ 1048576 →
 Calls Tryz.prog 44 #[v, .int .i64 (room : Int)] w fun e w' => e = .returned (.int .i64 (szR t.n room)) ∧ Below w.heap.size w w'
theorem count_term (t : Tm) : CntOk t := by
 refine tm_ind (p := CntOk) ?_ t
 clear t
 intro k s n ks hks w v room hin hroom
 unfold TmIn at hin
 obtain ⟨ao, cap, rfl, hk, hn, hs, hlen, hcap, hrow⟩ := hin
 unfold maxLen at hcap
 rw [n_mk]
 have hb0 : Below w.heap.size w (w.alloc (.cells #[.int .i64 k, .string s, .int .i64 n, .slice ao ks.length cap] 24)) := (Below.refl _ _).alloc (Nat.le_refl _) _
 have HC3 : Hid (∀ wr, Below (w.alloc (.cells #[.int .i64 k, .string s, .int .i64 n, .slice ao ks.length cap] 24)).heap.size (w.alloc (.cells #[.int .i64 k, .string s, .int .i64 n, .slice ao ks.length cap] 24)) wr → wr.cell? ⟨w.heap.size, 3, none⟩ = some (.slice ao ks.length cap)) := fun wr hb =>
   cell_keep (w := w.alloc _) (by simp) hb
 have HR : Hid (∀ wr, Below (w.alloc (.cells #[.int .i64 k, .string s, .int .i64 n, .slice ao ks.length cap] 24)).heap.size (w.alloc (.cells #[.int .i64 k, .string s, .int .i64 n, .slice ao ks.length cap] 24)) wr → ks ≠ [] → ∃ b off, ao = some ⟨b, off, none⟩ ∧ TmsIn wr ks b off) := fun wr hb h0 => by
   obtain ⟨b, off, e, hr⟩ := hrow h0
   exact ⟨b, off, e, TmsIn.keep hb ks b off (TmsIn.keep hb0 ks b off hr)⟩
 have HKS : Hid _ := hks
 replace hb0 : Hid _ := hb0
 clear hrow hks
 go_enter Tryz.func44, Tryz.ntmps44
 go_wp2
 generalize hW : w.alloc (.cells #[.int .i64 k, .string s, .int .i64 n, .slice ao ks.length cap] 24) = W at *
 go_loopw [1, 5] (fun vl vi wr => Hid (Below W.heap.size W wr) ∧ ∃ j : Nat, j ≤ ks.length ∧ vi = .int .i64 (j : Int) ∧ ((∃ l : Nat, vl = .int .i64 (l : Int) ∧ l ≤ 1048576 ∧ Hid (l + 1 + ns (ks.take j) = room)) ∨ (vl = .int .i64 (-1) ∧ Hid (szR (1 + ns ks) room = -1)))) (fun _ i _ => ks.length - (intOf i).toNat)
 case atStart =>
   refine ⟨Below.refl _ _, 0, by omega, rfl, ?_⟩
   by_cases h0 : room = 0
   · subst h0
     exact Or.inr ⟨rfl, by show _ = _; unfold szR; rw [if_neg (by omega)]⟩
   · exact Or.inl ⟨room - 1, by simp; omega, by omega, by show _ = _; simp [ns, Tm.n.ns]; omega⟩
 case round =>
   obtain ⟨HB, j, hj, rfl, hl⟩ := hrel
   have c3 := HC3.out wr HB.out
   rcases hl with ⟨l, rfl, hll, HL⟩ | ⟨rfl, HL⟩
   · by_cases hlt : j < ks.length
     · obtain ⟨b, off, rfl, hin⟩ := HR.out wr HB.out (by intro e; subst e; simp at hlt)
       obtain ⟨c0, c1, c2, c3', h0, h1, h2, h3, ht⟩ := hin.at j hlt
       have HC := HKS.out ks[j] (List.getElem_mem hlt) wr _ l ht hll
       have hw : ns (ks.take (j + 1)) = ns (ks.take j) + ks[j].n := by
         rw [List.take_succ_eq_append_getElem hlt, ns_append]; simp [ns, Tm.n.ns]
       have HW : Hid _ := hw
       clear hin ht hw HR HC3 HKS
       by_cases hfit : ks[j].n ≤ l
       · rw [show szR ks[j].n l = ((l - ks[j].n : Nat) : Int) from if_pos hfit] at HC
         replace HC : Hid _ := HC
         go_wp2_with (go_at_call 44; refine (Calls.mono HC.out ?_); rintro e w1 ⟨rfl, hb⟩; have HB1 : Hid (Below W.heap.size W w1) := HB.out.trans (hb.mono HB.out.size); clear hb)
         go_roundw
         case rel => exact ⟨HB1.out, j + 1, by omega, by go_num, Or.inl ⟨l - ks[j].n, rfl, by omega, by show _ = _; have := HL.out; have := HW.out; omega⟩⟩
         case measure => simp [intOf]; omega
       · rw [show szR ks[j].n l = -1 from if_neg hfit] at HC
         replace HC : Hid _ := HC
         have hr : szR (1 + ns ks) room = -1 := by
           have h1 := HL.out
           have h2 := HW.out
           have h3 : ns (ks.take (j + 1)) + ns (ks.drop (j + 1)) = ns ks := by rw [← ns_append, List.take_append_drop]
           unfold szR
           rw [if_neg (by omega)]
         have HRR : Hid _ := hr
         clear hr
         go_wp2_with (go_at_call 44; refine (Calls.mono HC.out ?_); rintro e w1 ⟨rfl, hb⟩; have HB1 : Hid (Below W.heap.size W w1) := HB.out.trans (hb.mono HB.out.size); clear hb)
         go_roundw
         case rel => exact ⟨HB1.out, j + 1, by omega, by go_num, Or.inr ⟨rfl, HRR.out⟩⟩
         case measure => simp [intOf]; omega
     · have hr : szR (1 + ns ks) room = (l : Int) := by
         have h1 := HL.out
         rw [List.take_of_length_le (by omega)] at h1
         unfold szR
         rw [if_pos (by omega)]
         omega
       have HRR : Hid _ := hr
       clear hr HR HC3 HKS
       go_wp2
       go_ret
       exact ⟨by rw [HRR.out]; rfl, hb0.out.trans (HB.out.mono hb0.out.size)⟩
   · clear HR HC3 HKS
     by_cases hlt : j < ks.length
     · go_wp2
       go_ret
       exact ⟨by rw [HL.out]; rfl, hb0.out.trans (HB.out.mono hb0.out.size)⟩
     · go_wp2
       go_ret
       exact ⟨by rw [HL.out]; rfl, hb0.out.trans (HB.out.mono hb0.out.size)⟩
end Go.Proofs.YtbkjcccbjnehbanGreatDoor

namespace Go.Proofs.YtbkjcccbjnehbanGreatDoor
open Go.RowKit
theorem in_any (x a b : Int) (w : World) :
   Calls Tryz.prog 26 #[.int .i64 x, .int .i64 a, .int .i64 b] w fun e w' => e = .returned (.bool (decide (a ≤ x ∧ x ≤ b))) ∧ w' = w := by
 by_cases h0 : a ≤ x
 · by_cases h1 : x ≤ b
   · rw [decide_eq_true (show a ≤ x ∧ x ≤ b from ⟨h0, h1⟩)]
     go_enter Tryz.func26, Tryz.ntmps26
     go_wp2
     go_ret
     exact ⟨by simp, rfl⟩
   · rw [decide_eq_false (show ¬ (a ≤ x ∧ x ≤ b) from fun h => h1 h.2)]
     go_enter Tryz.func26, Tryz.ntmps26
     go_wp2
     go_ret
     exact ⟨by simp, rfl⟩
 · rw [decide_eq_false (show ¬ (a ≤ x ∧ x ≤ b) from fun h => h0 h.1)]
   go_enter Tryz.func26, Tryz.ntmps26
   go_wp2
   go_ret
   exact ⟨by simp, rfl⟩
end Go.Proofs.YtbkjcccbjnehbanGreatDoor
