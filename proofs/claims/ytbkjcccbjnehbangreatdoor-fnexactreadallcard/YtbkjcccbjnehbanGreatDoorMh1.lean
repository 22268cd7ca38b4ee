import Derived.WalkKit
import Derived.WalkSpells
import Derived.Below
import Derived.ProofKit
import Derived.Test.YtbkjcccbjnehbanGreatDoorRows
import Derived.Lib.IndexAny
namespace Go.Proofs.YtbkjcccbjnehbanGreatDoor
open Go.RowKit
inductive Tm where
 | mk : Int → ByteArray → Int → List Tm → Tm
def Tm.wt : Tm → Nat
 | .mk _ s _ ks => s.size + ks.length + wts ks
where wts : List Tm → Nat
 | [] => 0
 | t :: ts => t.wt + wts ts
abbrev wts := Tm.wt.wts
mutual
def TmIn (w : World) : Tm → Value → Prop
 | .mk k s n ks, v => ∃ ao cap, v = .agg #[.int .i64 k, .string s, .int .i64 n, .slice ao ks.length cap] ∧ (-9223372036854775808 ≤ k ∧ k ≤ 9223372036854775807) ∧ (-9223372036854775808 ≤ n ∧ n ≤ 9223372036854775807) ∧
   s.size ≤ maxLen ∧ ks.length ≤ cap ∧ cap ≤ maxLen ∧ (ks ≠ [] → ∃ b off, ao = some ⟨b, off, none⟩ ∧ TmsIn w ks b off)
def TmsIn (w : World) : List Tm → Nat → Nat → Prop
 | [], _, _ => True
 | t :: ts, b, off => (∃ c0 c1 c2 c3, w.cell? ⟨b, off, none⟩ = some c0 ∧ w.cell? ⟨b, off + 1, none⟩ = some c1 ∧ w.cell? ⟨b, off + 2, none⟩ = some c2 ∧ w.cell? ⟨b, off + 3, none⟩ = some c3 ∧ TmIn w t (.agg #[c0, c1, c2, c3])) ∧ TmsIn w ts b (off + 4)
end
theorem cell_blk {w : World} {a : Addr} {x : Value} (h : w.cell? a = some x) : a.block < w.heap.size := by
 unfold World.cell? at h
 split at h
 · rename_i hb; exact (Array.getElem?_eq_some_iff.1 hb).1
 · cases h
theorem cell_keep {w w' : World} {a : Addr} {x : Value} (h : w.cell? a = some x) (hb : Below w.heap.size w w') : w'.cell? a = some x := by
 rw [World.cell?_of_block (hb.block a.block (cell_blk h))]; exact h
theorem below_set {B g i : Nat} {w w' : World} (h : Below B w w') (hg : B ≤ g) (v : Value) : Below B w (w'.setCell ⟨g, i, none⟩ v) :=
 ⟨h.os, h.tape, h.output, by simpa [World.setCell] using h.size, fun k hk => by
   have : g ≠ k := by omega
   rw [← h.block k hk]
   simp [World.setCell, Array.getElem?_modify, this]⟩
mutual
theorem TmIn.keep {w w' : World} (hb : Below w.heap.size w w') : ∀ (t : Tm) (v : Value), TmIn w t v → TmIn w' t v
 | .mk k s n ks, v, h => by
   obtain ⟨ao, cap, rfl, h1, h2, h3, h4, h5, h6⟩ := h
   refine ⟨ao, cap, rfl, h1, h2, h3, h4, h5, fun h0 => ?_⟩
   obtain ⟨b, off, rfl, h7⟩ := h6 h0
   exact ⟨b, off, rfl, TmsIn.keep hb ks b off h7⟩
theorem TmsIn.keep {w w' : World} (hb : Below w.heap.size w w') : ∀ (ks : List Tm) (b off : Nat), TmsIn w ks b off → TmsIn w' ks b off
 | [], _, _, _ => trivial
 | t :: ts, b, off, h => by
   obtain ⟨⟨c0, c1, c2, c3, h0, h1, h2, h3, ht⟩, hr⟩ := h
   exact ⟨⟨c0, c1, c2, c3, cell_keep h0 hb, cell_keep h1 hb, cell_keep h2 hb, cell_keep h3 hb, TmIn.keep hb t _ ht⟩, TmsIn.keep hb ts b (off + 4) hr⟩
end
theorem TmsIn.at {w : World} {b : Nat} : ∀ {ks : List Tm} {off : Nat}, TmsIn w ks b off → ∀ (j : Nat) (hj : j < ks.length),
   ∃ c0 c1 c2 c3, w.cell? ⟨b, off + j * 4, none⟩ = some c0 ∧ w.cell? ⟨b, off + j * 4 + 1, none⟩ = some c1 ∧ w.cell? ⟨b, off + j * 4 + 2, none⟩ = some c2 ∧ w.cell? ⟨b, off + j * 4 + 3, none⟩ = some c3 ∧ TmIn w ks[j] (.agg #[c0, c1, c2, c3])
 | [], _, _, j, hj => by simp at hj
 | t :: ts, off, h, 0, _ => by simpa using h.1
 | t :: ts, off, h, j + 1, hj => by
   have := TmsIn.at h.2 j (by simpa using hj)
   rw [show off + 4 + j * 4 = off + (j + 1) * 4 by omega] at this
   exact this
theorem tm_kid_lt {k n : Int} {s : ByteArray} {ks : List Tm} {t : Tm} (h : t ∈ ks) : SizeOf.sizeOf t < SizeOf.sizeOf (Tm.mk k s n ks) := by
 have := List.sizeOf_lt_of_mem h
 simp
 omega
theorem tm_ind {p : Tm → Prop} (h : ∀ k s n ks, (∀ t ∈ ks, p t) → p (.mk k s n ks)) (t : Tm) : p t := by
 have : ∀ m, ∀ t, SizeOf.sizeOf t < m → p t := by
   intro m
   induction m with
   | zero => intro t ht; omega
   | succ m ih =>
     intro t ht
     obtain ⟨k, s, n, ks⟩ := t
     exact h k s n ks fun t' h' => ih t' (by have := tm_kid_lt (k := k) (n := n) (s := s) h'; omega)
 exact this _ t (Nat.lt_succ_self _)
theorem wts_append (l m : List Tm) : wts (l ++ m) = wts l + wts m := by
 induction l with
 | nil => simp [wts, Tm.wt.wts]
 | cons t r ih => simp only [List.cons_append, wts, Tm.wt.wts] at *; omega
end Go.Proofs.YtbkjcccbjnehbanGreatDoor

namespace Go.Proofs.YtbkjcccbjnehbanGreatDoor
open Go.RowKit
structure Sn where
 kind : Int
 text : ByteArray
 num : Int
 pos : Int
 near : Bool
structure OpP where
 name : ByteArray
 prio : Int
 left : Int
 right : Int
def infixP (s : ByteArray) : Option OpP :=
 match s.data.toList with
 | [58, 45] | [45, 45, 62] => some ⟨s, 1200, 1199, 1199⟩
 | [59] => some ⟨s, 1100, 1099, 1100⟩
 | [45, 62] => some ⟨s, 1050, 1049, 1050⟩
 | [44] => some ⟨s, 1000, 999, 1000⟩
 | [61] | [92, 61] | [61, 61] | [105, 115] | [60] | [61, 58, 61] => some ⟨s, 700, 699, 699⟩
 | [43] | [45] => some ⟨s, 500, 500, 499⟩
 | [42] | [47, 47] => some ⟨s, 400, 400, 399⟩
 | _ => none
def prefixP (s : ByteArray) : Option OpP :=
 match s.data.toList with
 | [58, 45] => some ⟨s, 1200, 0, 1199⟩
 | [92, 43] => some ⟨s, 900, 0, 900⟩
 | [45] => some ⟨s, 200, 0, 200⟩
 | _ => none
structure Rd where
 at_ : Nat
 bad : Bool
 deep : Nat
 names : List ByteArray
def str (l : List UInt8) : ByteArray := ⟨l.toArray⟩
def noTm : Tm := .mk 0 ⟨#[]⟩ 0 []
def varTm (n : Nat) : Tm := .mk 1 ⟨#[]⟩ (n : Int) []
def atomTm (s : ByteArray) : Tm := .mk 2 s 0 []
def intTm (n : Int) : Tm := .mk 3 ⟨#[]⟩ n []
def structTm (s : ByteArray) (ks : List Tm) : Tm := .mk 4 s 0 ks
section
variable (L : List Sn)
def Rd.is (r : Rd) (kind : Int) (p : ByteArray → Bool) : Bool := !r.bad && match L[r.at_]? with | some s => decide (s.kind = kind) && p s.text | none => false
def anyT : ByteArray → Bool := fun _ => true
def eqT (l : List UInt8) : ByteArray → Bool := fun s => decide (s.data.toList = l)
def Rd.mark (r : Rd) (l : List UInt8) : Bool × Rd := if r.is L 4 (eqT l) then (true, { r with at_ := r.at_ + 1 }) else (false, r)
def Rd.wants (r : Rd) (l : List UInt8) : Rd := let x := r.mark L l; if x.1 then x.2 else { x.2 with bad := true }
def Rd.var (r : Rd) (s : ByteArray) : Tm × Rd :=
 match (if s.data.toList = [95] then none else r.names.findIdx? fun x => decide (x.data.toList = s.data.toList)) with
 | some i => (varTm i, r)
 | none => (varTm r.names.length, { r with names := r.names ++ [s] })
def someP (tm : Int → Rd → Tm × Rd) : Nat → List Tm → Rd → List Tm × Rd
 | 0, ks, r => (ks, r)
 | n + 1, ks, r =>
   if r.bad then (ks, r) else
   let x := tm 999 r
   if 5 ≤ ks.length then (ks, { x.2 with bad := true }) else
   let m := x.2.mark L [41]
   if m.1 then (ks ++ [x.1], m.2) else someP tm n (ks ++ [x.1]) (m.2.wants L [44])
def rowP (tm : Int → Rd → Tm × Rd) : Nat → List Tm → Rd → List Tm × Tm × Rd
 | 0, ks, r => (ks, atomTm (str [91, 93]), r)
 | n + 1, ks, r =>
   if r.bad then (ks, atomTm (str [91, 93]), r) else
   let x := tm 999 r
   let m := x.2.mark L [93]
   if m.1 then (ks ++ [x.1], atomTm (str [91, 93]), m.2) else
   let b := m.2.mark L [124]
   if b.1 then let y := tm 999 b.2; (ks ++ [x.1], y.1, y.2.wants L [93]) else rowP tm n (ks ++ [x.1]) (b.2.wants L [44])
def consTm (ks : List Tm) (last : Tm) : Tm := ks.foldr (fun x y => structTm (str [46]) [x, y]) last
def Rd.nearI (r : Rd) : Bool := match L[r.at_]?, L[r.at_ + 1]? with | some s, some u => decide (u.kind = 3) && decide (u.pos = wrap64 (s.pos + 1)) | _, _ => false
def atomP (tm : Int → Rd → Tm × Rd) (n : Nat) (most : Int) (s : Sn) (r : Rd) : Tm × Int × Rd :=
 if s.near then let x := someP L tm n [] { r with at_ := r.at_ + 2 }; (structTm s.text x.1, 0, x.2)
 else if s.text.data.toList = [45] ∧ r.nearI L = true then (intTm (wrap64 (-(match L[r.at_ + 1]? with | some u => u.num | none => 0))), 0, { r with at_ := r.at_ + 2 })
 else match prefixP s.text with
   | some op => if op.prio ≤ most then let x := tm op.right { r with at_ := r.at_ + 1 }; (structTm s.text [x.1], op.prio, x.2) else (noTm, 0, { r with bad := true })
   | none => if (infixP s.text).isSome then (noTm, 0, { r with bad := true }) else (atomTm s.text, 0, { r with at_ := r.at_ + 1 })
def roundP (tm : Int → Rd → Tm × Rd) (r : Rd) : Tm × Rd :=
 match L[r.at_]?, L[r.at_ + 1]? with
 | some s, some u => if !r.bad && decide (s.kind = 1) && decide (u.kind = 4) && eqT [41] u.text then (atomTm s.text, { r with at_ := r.at_ + 2 }) else let x := tm 1200 r; (x.1, x.2.wants L [41])
 | _, _ => let x := tm 1200 r; (x.1, x.2.wants L [41])
def primP (tm : Int → Rd → Tm × Rd) (n : Nat) (most : Int) (r : Rd) : Tm × Int × Rd :=
 if r.bad then (noTm, 0, r) else
 match L[r.at_]? with
 | none => (noTm, 0, { r with bad := true })
 | some s =>
   if s.kind = 1 then atomP L tm n most s r
   else if s.kind = 4 ∧ s.text.data.toList = [40] then let x := roundP L tm { r with at_ := r.at_ + 1 }; (x.1, 0, x.2)
   else if s.kind = 4 ∧ s.text.data.toList = [91] then
     let r1 := { r with at_ := r.at_ + 1 }
     let m := r1.mark L [93]
     if m.1 then (atomTm (str [91, 93]), 0, m.2) else let x := rowP L tm n [] m.2; (consTm x.1 x.2.1, 0, x.2.2)
   else if s.kind = 3 then (intTm s.num, 0, { r with at_ := r.at_ + 1 })
   else if s.kind = 2 then let x := Rd.var { r with at_ := r.at_ + 1 } s.text; (x.1, 0, x.2)
   else (noTm, 0, { r with bad := true })
def Rd.infix (r : Rd) : Option OpP :=
 if r.bad then none else
 match L[r.at_]? with
 | none => none
 | some s => if s.kind = 4 ∧ s.text.data.toList = [44] then infixP (str [44]) else if s.kind = 1 ∧ s.near = false then infixP s.text else none
def infL (tm : Int → Rd → Tm × Rd) (most : Int) : Nat → Tm → Int → Rd → Tm × Rd
 | 0, t, _, r => (t, r)
 | n + 1, t, prio, r =>
   match r.infix L with
   | none => (t, r)
   | some op => if op.prio > most ∨ op.left < prio then (t, r) else
     let y := tm op.right { r with at_ := r.at_ + 1 }
     infL tm most n (structTm op.name [t, y.1]) op.prio y.2
def termP : Nat → Int → Rd → Tm × Rd
 | 0, _, r => (noTm, { r with bad := true, deep := r.deep + 1 })
 | d + 1, most, r =>
   if r.bad then (noTm, { r with deep := r.deep + 1 }) else
   let p := primP L (termP d) (L.length + 2) most { r with deep := r.deep + 1 }
   let q := infL L (termP d) most (L.length + 2) p.1 p.2.1 p.2.2
   (q.1, { q.2 with deep := q.2.deep - 1 })
end
end Go.Proofs.YtbkjcccbjnehbanGreatDoor

namespace Go.Proofs.YtbkjcccbjnehbanGreatDoor
open Go.RowKit
def charOk (c : UInt8) : Bool := !(decide (c.toNat < 33) || decide (126 < c.toNat) || decide (c.toNat = 39) || decide (c.toNat = 34))
def nameOk (s : ByteArray) : Bool := s.data.toList.all charOk && decide (1 ≤ s.size ∧ s.size ≤ 20)
theorem take_at (s : ByteArray) (k : Nat) (h : k < s.size) : s.data.toList.take (k + 1) = s.data.toList.take k ++ [s[k]] := by
 rw [List.take_succ_eq_append_getElem (by simpa using h)]; rfl
theorem mem_s (s : ByteArray) (k : Nat) (h : k < s.size) : s[k] ∈ s.data.toList := by
 show s.data[k] ∈ s.data.toList
 simp
end Go.Proofs.YtbkjcccbjnehbanGreatDoor

namespace Go.Proofs.YtbkjcccbjnehbanGreatDoor
def symL : List UInt8 := [43, 45, 42, 47, 92, 94, 60, 62, 61, 126, 58, 46, 63, 64, 35, 38, 36]
def isSym (c : UInt8) : Bool := symL.contains c
abbrev symS : ByteArray := { data := #[43, 45, 42, 47, 92, 94, 60, 62, 61, 126, 58, 46, 63, 64, 35, 38, 36] }
theorem isSym_index (c : UInt8) : decide (0 ≤ Lib.indexByte symS.data.toList c) = isSym c := (Lib.contains_iff_indexByte _ _).symm
theorem u8_cast (c : UInt8) : ((c.toNat : Int)).toNat.toUInt8 = c := by simp
end Go.Proofs.YtbkjcccbjnehbanGreatDoor

namespace Go.Proofs.YtbkjcccbjnehbanGreatDoor
open Go.RowKit
theorem ret_b {a b : Bool} (h : a = b) : Ending.returned (.bool a) = .returned (.bool b) := by rw [h]
structure Sg where
 kind : Int
 text : ByteArray
 num : Int
 at_ : Nat
 near : Bool
def at8 (t : ByteArray) (i : Nat) : UInt8 := t.data.toList.getD i 0
theorem at8_eq (t : ByteArray) (i : Nat) (h : i < t.size) : at8 t i = t[i] := by
 unfold at8
 have : i < t.data.toList.length := by simpa using h
 simp only [List.getD_eq_getElem?_getD, List.getElem?_eq_getElem this, Option.getD_some]
 rfl
theorem drop_at (t : ByteArray) (i : Nat) (h : i < t.size) : t.data.toList.drop i = t[i] :: t.data.toList.drop (i + 1) := by
 rw [List.drop_eq_getElem_cons (show i < t.data.toList.length by simpa using h)]
 rfl
theorem drop_end (t : ByteArray) (i : Nat) (h : ¬ i < t.size) : t.data.toList.drop i = [] := List.drop_eq_nil_of_le (by simp; omega)
def isSmall (c : UInt8) : Bool := decide (97 ≤ c.toNat ∧ c.toNat ≤ 122)
def isGreat (c : UInt8) : Bool := decide ((65 ≤ c.toNat ∧ c.toNat ≤ 90) ∨ c.toNat = 95)
def isFig (c : UInt8) : Bool := decide (48 ≤ c.toNat ∧ c.toNat ≤ 57)
def isWord (c : UInt8) : Bool := isSmall c || isGreat c || isFig c
def isBlank (c : UInt8) : Bool := decide (c.toNat = 32 ∨ c.toNat = 9 ∨ c.toNat = 10)
def not10 (c : UInt8) : Bool := decide (c.toNat ≠ 10)
def not39 (c : UInt8) : Bool := decide (c.toNat ≠ 39)
def run (t : ByteArray) (p : UInt8 → Bool) (i : Nat) : Nat := ((t.data.toList.drop i).takeWhile p).length
theorem run_yes {t : ByteArray} {p : UInt8 → Bool} {i : Nat} (h : i < t.size) (hp : p t[i] = true) : run t p i = run t p (i + 1) + 1 := by
 unfold run; rw [drop_at t i h, List.takeWhile_cons, if_pos hp, List.length_cons]
theorem run_no {t : ByteArray} {p : UInt8 → Bool} {i : Nat} (h : i < t.size) (hp : p t[i] = false) : run t p i = 0 := by
 unfold run; rw [drop_at t i h, List.takeWhile_cons, hp]; rfl
theorem run_end {t : ByteArray} {p : UInt8 → Bool} {i : Nat} (h : ¬ i < t.size) : run t p i = 0 := by
 unfold run; rw [drop_end t i h]; rfl
theorem run_le (t : ByteArray) (p : UInt8 → Bool) (i : Nat) : run t p i ≤ t.size - i := by
 unfold run
 have := (List.takeWhile_prefix p (l := t.data.toList.drop i)).length_le
 rw [List.length_drop] at this
 simpa using this
theorem run_at {t : ByteArray} {p : UInt8 → Bool} : ∀ (n i : Nat), t.size - i ≤ n → ∀ j, i ≤ j → j < i + run t p i → ∃ h : j < t.size, p t[j] = true := by
 intro n
 induction n with
 | zero => intro i hn j hj hlt; have := run_le t p i; omega
 | succ n ih =>
   intro i hn j hj hlt
   by_cases hi : i < t.size
   · cases hp : p t[i] with
     | false => rw [run_no hi hp] at hlt; omega
     | true =>
       rw [run_yes hi hp] at hlt
       by_cases e : j = i
       · subst e; exact ⟨hi, hp⟩
       · exact ih (i + 1) (by omega) j (by omega) (by omega)
   · rw [run_end hi] at hlt; omega
theorem run_stop {t : ByteArray} {p : UInt8 → Bool} : ∀ (n i : Nat), t.size - i ≤ n → ∀ h : i + run t p i < t.size, p t[i + run t p i] = false := by
 intro n
 induction n with
 | zero => intro i hn h; omega
 | succ n ih =>
   intro i hn h
   have hi : i < t.size := by omega
   cases hp : p t[i] with
   | false => have e := run_no hi hp; simp only [e] at h ⊢; exact hp
   | true =>
     have e := run_yes hi hp
     have e2 : i + run t p i = i + 1 + run t p (i + 1) := by omega
     have h2 : i + 1 + run t p (i + 1) < t.size := by omega
     have := ih (i + 1) (by omega) h2
     simp only [e2]; exact this
def sgNum : List UInt8 → Int → Option (Int × Nat)
 | [], a => some (a, 0)
 | c :: l, a => if isFig c then (if 999999999 < 10 * a + (c.toNat : Int) - 48 then none else (sgNum l (10 * a + (c.toNat : Int) - 48)).map fun x => (x.1, x.2 + 1)) else some (a, 0)
def isEnd (t : ByteArray) (i : Nat) : Bool :=
 decide ((at8 t i).toNat = 46) && (decide (i = 0) || !isSym (at8 t (i - 1))) && (decide (i + 1 = t.size) || isBlank (at8 t (i + 1)) || decide ((at8 t (i + 1)).toNat = 37))
def mkSg (t : ByteArray) (kind : Int) (text : ByteArray) (num : Int) (i e : Nat) : Sg × Nat := (⟨kind, text, num, i, decide (e < t.size) && decide ((at8 t e).toNat = 40)⟩, e)
def badSg (t : ByteArray) (i : Nat) : Sg × Nat := mkSg t 6 (t.extract i (i + 1)) 0 i (i + 1)
def isMark (c : UInt8) : Bool := decide (c.toNat = 40 ∨ c.toNat = 41 ∨ c.toNat = 91 ∨ c.toNat = 93 ∨ c.toNat = 44 ∨ c.toNat = 124)
def isLone (c : UInt8) : Bool := decide (c.toNat = 33 ∨ c.toNat = 59)
def nameSg (t : ByteArray) (kind : Int) (p : UInt8 → Bool) (i : Nat) : Sg × Nat :=
 if run t p i ≤ 20 then mkSg t kind (t.extract i (i + run t p i)) 0 i (i + run t p i) else badSg t i
def numSg (t : ByteArray) (i : Nat) : Sg × Nat :=
 match sgNum (t.data.toList.drop i) 0 with
 | some (v, k) => mkSg t 3 ⟨#[]⟩ v i (i + k)
 | none => badSg t i
def quotSg (t : ByteArray) (i : Nat) : Sg × Nat :=
 if i + 1 + run t not39 (i + 1) < t.size ∧ nameOk (t.extract (i + 1) (i + 1 + run t not39 (i + 1))) = true then mkSg t 1 (t.extract (i + 1) (i + 1 + run t not39 (i + 1))) 0 i (i + run t not39 (i + 1) + 2) else badSg t i
def oneSg (t : ByteArray) (kind : Int) (i : Nat) : Sg × Nat := mkSg t kind (t.extract i (i + 1)) 0 i (i + 1)
def signAt (t : ByteArray) (i : Nat) : Sg × Nat :=
 if isSmall (at8 t i) then nameSg t 1 isWord i
 else if isGreat (at8 t i) then nameSg t 2 isWord i
 else if isFig (at8 t i) then numSg t i
 else if (at8 t i).toNat = 39 then quotSg t i
 else if isLone (at8 t i) then oneSg t 1 i
 else if isMark (at8 t i) then oneSg t 4 i
 else if isEnd t i then oneSg t 5 i
 else if isSym (at8 t i) then nameSg t 1 isSym i
 else badSg t i
def stepAt (t : ByteArray) (i : Nat) : Option Sg × Nat :=
 if isBlank (at8 t i) then (none, i + 1)
 else if (at8 t i).toNat = 37 then (none, i + run t not10 i)
 else (some (signAt t i).1, (signAt t i).2)
def sgsF (t : ByteArray) : Nat → Nat → List Sg
 | 0, _ => []
 | n + 1, i => if i < t.size then (stepAt t i).1.toList ++ sgsF t n (stepAt t i).2 else []
def sgs (t : ByteArray) (i : Nat) : List Sg := sgsF t (t.size - i) i
theorem sgNum_le : ∀ (l : List UInt8) (a v : Int) (k : Nat), sgNum l a = some (v, k) → k ≤ l.length := by
 intro l
 induction l with
 | nil => intro a v k h; simp [sgNum] at h; omega
 | cons c l ih =>
   intro a v k h
   unfold sgNum at h
   split at h
   · split at h
     · cases h
     · rw [Option.map_eq_some_iff] at h
       obtain ⟨⟨v', k'⟩, h1, h2⟩ := h
       have := ih _ _ _ h1
       simp at h2
       simp; omega
   · simp at h; omega
theorem sgNum_pos {c : UInt8} {l : List UInt8} {v : Int} {k : Nat} (hc : isFig c = true) (h : sgNum (c :: l) 0 = some (v, k)) : 0 < k := by
 unfold sgNum at h
 rw [if_pos hc] at h
 split at h
 · cases h
 · rw [Option.map_eq_some_iff] at h
   obtain ⟨⟨v', k'⟩, h1, h2⟩ := h
   simp at h2; omega
theorem badSg_end {t : ByteArray} {i : Nat} (h : i < t.size) : i < (badSg t i).2 ∧ (badSg t i).2 ≤ t.size := by
 unfold badSg mkSg; simp; omega
theorem oneSg_end {t : ByteArray} {i : Nat} {k : Int} (h : i < t.size) : i < (oneSg t k i).2 ∧ (oneSg t k i).2 ≤ t.size := by
 unfold oneSg mkSg; simp; omega
theorem nameSg_end {t : ByteArray} {i : Nat} {k : Int} {p : UInt8 → Bool} (h : i < t.size) (hp : p t[i] = true) : i < (nameSg t k p i).2 ∧ (nameSg t k p i).2 ≤ t.size := by
 have h1 := run_yes h hp
 have h2 := run_le t p i
 unfold nameSg
 split
 · unfold mkSg; simp; omega
 · exact badSg_end h
theorem signAt_end {t : ByteArray} {i : Nat} (h : i < t.size) : i < (signAt t i).2 ∧ (signAt t i).2 ≤ t.size := by
 unfold signAt
 rw [at8_eq t i h]
 split
 · rename_i hc; exact nameSg_end h (by unfold isWord; rw [hc]; rfl)
 split
 · rename_i hc; exact nameSg_end h (by unfold isWord; rw [hc]; simp)
 split
 · rename_i hc
   unfold numSg
   split
   · rename_i v k hk
     rw [drop_at t i h] at hk
     have h1 := sgNum_pos hc hk
     have h2 := sgNum_le _ _ _ _ hk
     simp at h2
     unfold mkSg; simp; omega
   · exact badSg_end h
 split
 · unfold quotSg
   split
   · unfold mkSg; simp; omega
   · exact badSg_end h
 split
 · exact oneSg_end h
 split
 · exact oneSg_end h
 split
 · exact oneSg_end h
 split
 · rename_i hc; exact nameSg_end h hc
 · exact badSg_end h
theorem stepAt_end {t : ByteArray} {i : Nat} (h : i < t.size) : i < (stepAt t i).2 ∧ (stepAt t i).2 ≤ t.size := by
 unfold stepAt
 split
 · simp; omega
 split
 · rename_i hc
   have hp : not10 t[i] = true := by unfold not10; rw [← at8_eq t i h]; simp; omega
   have h1 := run_yes h hp
   have h2 := run_le t not10 i
   simp; omega
 · exact signAt_end h
theorem sgsF_more {t : ByteArray} : ∀ (n m i : Nat), t.size - i ≤ n → t.size - i ≤ m → sgsF t n i = sgsF t m i := by
 intro n
 induction n with
 | zero =>
   intro m i hn hm
   cases m with
   | zero => rfl
   | succ m => unfold sgsF; rw [if_neg (by omega)]
 | succ n ih =>
   intro m i hn hm
   cases m with
   | zero => unfold sgsF; rw [if_neg (by omega)]
   | succ m =>
     unfold sgsF
     by_cases hi : i < t.size
     · rw [if_pos hi, if_pos hi]
       have := stepAt_end hi
       rw [ih m _ (by omega) (by omega)]
     · rw [if_neg hi, if_neg hi]
theorem sgs_step {t : ByteArray} {i : Nat} (h : i < t.size) : sgs t i = (stepAt t i).1.toList ++ sgs t (stepAt t i).2 := by
 have := stepAt_end h
 obtain ⟨n, hn⟩ : ∃ n, t.size - i = n + 1 := ⟨t.size - i - 1, by omega⟩
 unfold sgs
 rw [hn]
 show (if i < t.size then _ else _) = _
 rw [if_pos h, sgsF_more n (t.size - (stepAt t i).2) _ (by omega) (Nat.le_refl _)]
theorem sgs_end {t : ByteArray} {i : Nat} (h : ¬ i < t.size) : sgs t i = [] := by
 unfold sgs
 rw [show t.size - i = 0 by omega]; rfl
end Go.Proofs.YtbkjcccbjnehbanGreatDoor

namespace Go.Proofs.YtbkjcccbjnehbanGreatDoor
open Go.RowKit
structure St where
 rest : List Sg
 names : List ByteArray
def cLpar : ByteArray := ⟨#[40]⟩
def cRpar : ByteArray := ⟨#[41]⟩
def cComma : ByteArray := ⟨#[44]⟩
def cMinus : ByteArray := ⟨#[45]⟩
def cLbr : ByteArray := ⟨#[91]⟩
def cRbr : ByteArray := ⟨#[93]⟩
def cBar : ByteArray := ⟨#[124]⟩
def cUs : ByteArray := ⟨#[95]⟩
def nilTm : Tm := atomTm ⟨#[91, 93]⟩
def mk? (l : ByteArray) : List Sg → Option (List Sg)
 | x :: r => if x.kind = 4 ∧ x.text = l then some r else none
 | [] => none
theorem mk?_len {l : ByteArray} {r r' : List Sg} (h : mk? l r = some r') : r.length = r'.length + 1 := by
 unfold mk? at h
 split at h
 · split at h
   · cases h; rfl
   · cases h
 · cases h
theorem mk?_cons {l : ByteArray} {r r' : List Sg} (h : mk? l r = some r') : ∃ x, r = x :: r' ∧ x.kind = 4 ∧ x.text = l := by
 unfold mk? at h
 split at h
 · split at h
   · rename_i hh; cases h; exact ⟨_, rfl, hh⟩
   · cases h
 · cases h
def varO (s : ByteArray) (names : List ByteArray) : Nat × List ByteArray :=
 match (if s = cUs then none else names.findIdx? fun x => decide (x = s)) with
 | some i => (i, names)
 | none => (names.length, names ++ [s])
def someO (five : Bool) (tm : Int → St → Option (Tm × St)) (ks : List Tm) (s : St) : Option (List Tm × St) :=
 match tm 999 s with
 | none => none
 | some (x, s1) =>
   if _h : s1.rest.length < s.rest.length then
     if five = true ∧ 5 ≤ ks.length then none else
     match mk? cRpar s1.rest with
     | some r => some (ks ++ [x], ⟨r, s1.names⟩)
     | none =>
       match _hc : mk? cComma s1.rest with
       | some r => someO five tm (ks ++ [x]) ⟨r, s1.names⟩
       | none => none
   else none
termination_by s.rest.length
decreasing_by have := mk?_len _hc; omega
def rowO (tm : Int → St → Option (Tm × St)) (ks : List Tm) (s : St) : Option (List Tm × Tm × St) :=
 match tm 999 s with
 | none => none
 | some (x, s1) =>
   if _h : s1.rest.length < s.rest.length then
     match mk? cRbr s1.rest with
     | some r => some (ks ++ [x], nilTm, ⟨r, s1.names⟩)
     | none =>
       match mk? cBar s1.rest with
       | some r =>
         match tm 999 ⟨r, s1.names⟩ with
         | none => none
         | some (y, s2) =>
           match mk? cRbr s2.rest with
           | some r2 => some (ks ++ [x], y, ⟨r2, s2.names⟩)
           | none => none
       | none =>
         match _hc : mk? cComma s1.rest with
         | some r => rowO tm (ks ++ [x]) ⟨r, s1.names⟩
         | none => none
   else none
termination_by s.rest.length
decreasing_by have := mk?_len _hc; omega
def infixO (rest : List Sg) : Option OpP :=
 match rest with
 | [] => none
 | x :: _ => if x.kind = 4 ∧ x.text = cComma then infixP cComma else if x.kind = 1 ∧ x.near = false then infixP x.text else none
def infO (tm : Int → St → Option (Tm × St)) (most : Int) (t : Tm) (prio : Int) (s : St) : Option (Tm × St) :=
 match infixO s.rest with
 | none => some (t, s)
 | some op =>
   if most < op.prio ∨ op.left < prio then some (t, s) else
   match tm op.right ⟨s.rest.tail, s.names⟩ with
   | none => none
   | some (y, s1) =>
     if _h : s1.rest.length < s.rest.length then infO tm most (structTm op.name [t, y]) op.prio s1 else none
termination_by s.rest.length
def nearO (x : Sg) (r : List Sg) : Bool :=
 match r with
 | u :: _ => decide (u.kind = 3) && decide (u.at_ = x.at_ + 1)
 | [] => false
def atomO (five : Bool) (tm : Int → St → Option (Tm × St)) (most : Int) (x : Sg) (r : List Sg) (names : List ByteArray) : Option (Tm × Int × St) :=
 if x.near then
   match mk? cLpar r with
   | none => none
   | some r' =>
     match someO five tm [] ⟨r', names⟩ with
     | none => none
     | some (ks, s) => some (structTm x.text ks, 0, s)
 else if x.text = cMinus ∧ nearO x r = true then some (intTm (wrap64 (-(r.head?.map (·.num)).getD 0)), 0, ⟨r.tail, names⟩)
 else match prefixP x.text with
   | some op =>
     if op.prio ≤ most then
       match tm op.right ⟨r, names⟩ with
       | none => none
       | some (y, s) => some (structTm x.text [y], op.prio, s)
     else none
   | none => if (infixP x.text).isSome then none else some (atomTm x.text, 0, ⟨r, names⟩)
def aloneO : List Sg → Option (ByteArray × List Sg)
 | x :: u :: r => if x.kind = 1 ∧ u.kind = 4 ∧ u.text = cRpar then some (x.text, r) else none
 | _ => none
def roundO (tm : Int → St → Option (Tm × St)) (r : List Sg) (names : List ByteArray) : Option (Tm × St) :=
 match aloneO r with
 | some (a, r') => some (atomTm a, ⟨r', names⟩)
 | none =>
   match tm 1200 ⟨r, names⟩ with
   | none => none
   | some (t, s) =>
     match mk? cRpar s.rest with
     | some r' => some (t, ⟨r', s.names⟩)
     | none => none
def listO (tm : Int → St → Option (Tm × St)) (r : List Sg) (names : List ByteArray) : Option (Tm × St) :=
 match mk? cRbr r with
 | some r' => some (nilTm, ⟨r', names⟩)
 | none =>
   match rowO tm [] ⟨r, names⟩ with
   | none => none
   | some (ks, y, s) => some (consTm ks y, s)
def primO (five : Bool) (tm : Int → St → Option (Tm × St)) (most : Int) (s : St) : Option (Tm × Int × St) :=
 match s.rest with
 | [] => none
 | x :: r =>
   if x.kind = 1 then atomO five tm most x r s.names
   else if x.kind = 4 ∧ x.text = cLpar then (roundO tm r s.names).map fun y => (y.1, 0, y.2)
   else if x.kind = 4 ∧ x.text = cLbr then (listO tm r s.names).map fun y => (y.1, 0, y.2)
   else if x.kind = 3 then some (intTm x.num, 0, ⟨r, s.names⟩)
   else if x.kind = 2 then some (varTm (varO x.text s.names).1, 0, ⟨r, (varO x.text s.names).2⟩)
   else none
def termO (five : Bool) : Nat → Int → St → Option (Tm × St)
 | 0, _, _ => none
 | d + 1, most, s =>
   match primO five (termO five d) most s with
   | none => none
   | some (t, prio, s1) => infO (termO five d) most t prio s1
def Short (tm : Int → St → Option (Tm × St)) : Prop := ∀ m s t s', tm m s = some (t, s') → s'.rest.length < s.rest.length
theorem someO_short {five : Bool} {tm : Int → St → Option (Tm × St)} (ks : List Tm) (s : St) : ∀ ks' s', someO five tm ks s = some (ks', s') → s'.rest.length < s.rest.length := by
 fun_induction someO five tm ks s <;> intro ks' s' h
 all_goals first | cases h | skip
 · rename_i hr; have := mk?_len hr; simp only; omega
 · rename_i hr ih; have h1 := ih _ _ h; have := mk?_len hr; simp only at h1; omega
theorem rowO_short {tm : Int → St → Option (Tm × St)} (ht : Short tm) (ks : List Tm) (s : St) : ∀ ks' y s', rowO tm ks s = some (ks', y, s') → s'.rest.length < s.rest.length := by
 fun_induction rowO tm ks s <;> intro ks' y' s' h
 all_goals first | cases h | skip
 · rename_i hr; have := mk?_len hr; simp only; omega
 · have hb := ‹mk? cBar _ = some _›; have hr := ‹mk? cRbr _ = some _›; have hy := ‹tm 999 (St.mk _ _) = some _›; have h1 := mk?_len hb; have h2 := mk?_len hr; have h3 := ht _ _ _ _ hy; simp only at h3; simp only; omega
 · rename_i hr ih; have h1 := ih _ _ _ h; have := mk?_len hr; simp only at h1; omega
theorem infO_short {tm : Int → St → Option (Tm × St)} (most : Int) (t : Tm) (prio : Int) (s : St) : ∀ t' s', infO tm most t prio s = some (t', s') → s'.rest.length ≤ s.rest.length := by
 fun_induction infO tm most t prio s <;> intro t' s' h
 all_goals first | (cases h; exact Nat.le_refl _) | cases h | skip
 rename_i ih; have := ih _ _ h; omega
theorem aloneO_short {r r' : List Sg} {a : ByteArray} (h : aloneO r = some (a, r')) : r'.length < r.length := by
 unfold aloneO at h
 split at h
 · split at h
   · cases h; simp only [List.length_cons]; omega
   · cases h
 · cases h
theorem roundO_short {tm : Int → St → Option (Tm × St)} (ht : Short tm) {r : List Sg} {names : List ByteArray} {t : Tm} {s : St} (h : roundO tm r names = some (t, s)) : s.rest.length < r.length := by
 unfold roundO at h
 split at h
 · rename_i ha; cases h; exact aloneO_short ha
 · split at h
   · cases h
   · rename_i hy
     split at h
     · rename_i hr; cases h; have := ht _ _ _ _ hy; have := mk?_len hr; simp only at *; omega
     · cases h
theorem listO_short {tm : Int → St → Option (Tm × St)} (ht : Short tm) {r : List Sg} {names : List ByteArray} {t : Tm} {s : St} (h : listO tm r names = some (t, s)) : s.rest.length < r.length := by
 unfold listO at h
 split at h
 · rename_i ha; cases h; have := mk?_len ha; simp only; omega
 · split at h
   · cases h
   · rename_i hy; cases h; exact rowO_short ht _ _ _ _ _ hy
theorem atomO_short {five : Bool} {tm : Int → St → Option (Tm × St)} (ht : Short tm) {most : Int} {x : Sg} {r : List Sg} {names : List ByteArray} {y : Tm × Int × St} (h : atomO five tm most x r names = some y) : y.2.2.rest.length ≤ r.length := by
 unfold atomO at h
 split at h
 · split at h
   · cases h
   · rename_i hr
     split at h
     · cases h
     · rename_i hs; cases h; have := someO_short _ _ _ _ hs; have := mk?_len hr; simp only at *; omega
 · split at h
   · cases h; simp
   · split at h
     · split at h
       · split at h
         · cases h
         · rename_i hy; cases h; have := ht _ _ _ _ hy; simp only at *; omega
       · cases h
     · split at h
       · cases h
       · cases h; exact Nat.le_refl _
theorem primO_short {five : Bool} {tm : Int → St → Option (Tm × St)} (ht : Short tm) {most : Int} {s : St} {y : Tm × Int × St} (h : primO five tm most s = some y) : y.2.2.rest.length < s.rest.length := by
 unfold primO at h
 split at h
 · cases h
 · rename_i x r e
   rw [e, List.length_cons]
   split at h
   · have := atomO_short ht h; omega
   · split at h
     · obtain ⟨z, hz, rfl⟩ := Option.map_eq_some_iff.1 h; have := roundO_short (t := z.1) (s := z.2) ht hz; simp only; omega
     · split at h
       · obtain ⟨z, hz, rfl⟩ := Option.map_eq_some_iff.1 h; have := listO_short (t := z.1) (s := z.2) ht hz; simp only; omega
       · split at h
         · cases h; simp
         · split at h
           · cases h; simp
           · cases h
theorem termO_short (five : Bool) : ∀ d, Short (termO five d)
 | 0, m, s, t, s', h => by unfold termO at h; cases h
 | d + 1, m, s, t, s', h => by
   unfold termO at h
   split at h
   · cases h
   · rename_i hp; have := primO_short (termO_short five d) hp; have := infO_short _ _ _ _ _ _ h; simp only at *; omega
end Go.Proofs.YtbkjcccbjnehbanGreatDoor
