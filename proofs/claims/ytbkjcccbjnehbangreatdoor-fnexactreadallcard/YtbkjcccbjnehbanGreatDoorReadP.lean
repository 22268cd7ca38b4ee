/- How signs are read as terms: the specification's rule as a plain function. -/
import Derived.Test.YtbkjcccbjnehbanGreatDoorTmPlain
import Derived.WalkKit
namespace Go.Proofs.YtbkjcccbjnehbanGreatDoor
open Go.RowKit

/-- a sign, its place any number -/
structure Sn where
  kind : Int
  text : ByteArray
  num : Int
  pos : Int
  near : Bool

structure OpP where
  name : ByteArray
  prio : Int
  left : Int
  right : Int

def infixP (s : ByteArray) : Option OpP :=
  match s.data.toList with
  | [58, 45] | [45, 45, 62] => some ⟨s, 1200, 1199, 1199⟩
  | [59] => some ⟨s, 1100, 1099, 1100⟩
  | [45, 62] => some ⟨s, 1050, 1049, 1050⟩
  | [44] => some ⟨s, 1000, 999, 1000⟩
  | [61] | [92, 61] | [61, 61] | [105, 115] | [60] | [61, 58, 61] => some ⟨s, 700, 699, 699⟩
  | [43] | [45] => some ⟨s, 500, 500, 499⟩
  | [42] | [47, 47] => some ⟨s, 400, 400, 399⟩
  | _ => none
def prefixP (s : ByteArray) : Option OpP :=
  match s.data.toList with
  | [58, 45] => some ⟨s, 1200, 0, 1199⟩
  | [92, 43] => some ⟨s, 900, 0, 900⟩
  | [45] => some ⟨s, 200, 0, 200⟩
  | _ => none

/-- what the reader holds -/
structure Rd where
  at_ : Nat
  bad : Bool
  deep : Nat
  names : List ByteArray

def str (l : List UInt8) : ByteArray := ⟨l.toArray⟩
def noTm : Tm := .mk 0 ⟨#[]⟩ 0 []
def varTm (n : Nat) : Tm := .mk 1 ⟨#[]⟩ (n : Int) []
def atomTm (s : ByteArray) : Tm := .mk 2 s 0 []
def intTm (n : Int) : Tm := .mk 3 ⟨#[]⟩ n []
def structTm (s : ByteArray) (ks : List Tm) : Tm := .mk 4 s 0 ks

section
variable (L : List Sn)
def Rd.is (r : Rd) (kind : Int) (p : ByteArray → Bool) : Bool := !r.bad && match L[r.at_]? with | some s => decide (s.kind = kind) && p s.text | none => false
def anyT : ByteArray → Bool := fun _ => true
def eqT (l : List UInt8) : ByteArray → Bool := fun s => decide (s.data.toList = l)
def Rd.mark (r : Rd) (l : List UInt8) : Bool × Rd := if r.is L 4 (eqT l) then (true, { r with at_ := r.at_ + 1 }) else (false, r)
def Rd.wants (r : Rd) (l : List UInt8) : Rd := let x := r.mark L l; if x.1 then x.2 else { x.2 with bad := true }
def Rd.var (r : Rd) (s : ByteArray) : Tm × Rd :=
  match (if s.data.toList = [95] then none else r.names.findIdx? fun x => decide (x.data.toList = s.data.toList)) with
  | some i => (varTm i, r)
  | none => (varTm r.names.length, { r with names := r.names ++ [s] })

/-- terms with , between, up to a ) -/
def someP (tm : Int → Rd → Tm × Rd) : Nat → List Tm → Rd → List Tm × Rd
  | 0, ks, r => (ks, r)
  | n + 1, ks, r =>
    if r.bad then (ks, r) else
    let x := tm 999 r
    if 5 ≤ ks.length then (ks, { x.2 with bad := true }) else
    let m := x.2.mark L [41]
    if m.1 then (ks ++ [x.1], m.2) else someP tm n (ks ++ [x.1]) (m.2.wants L [44])
/-- the items of a list, its rest, behind its [ -/
def rowP (tm : Int → Rd → Tm × Rd) : Nat → List Tm → Rd → List Tm × Tm × Rd
  | 0, ks, r => (ks, atomTm (str [91, 93]), r)
  | n + 1, ks, r =>
    if r.bad then (ks, atomTm (str [91, 93]), r) else
    let x := tm 999 r
    let m := x.2.mark L [93]
    if m.1 then (ks ++ [x.1], atomTm (str [91, 93]), m.2) else
    let b := m.2.mark L [124]
    if b.1 then let y := tm 999 b.2; (ks ++ [x.1], y.1, y.2.wants L [93]) else rowP tm n (ks ++ [x.1]) (b.2.wants L [44])
def consTm (ks : List Tm) (last : Tm) : Tm := ks.foldr (fun x y => structTm (str [46]) [x, y]) last
def Rd.nearI (r : Rd) : Bool := match L[r.at_]?, L[r.at_ + 1]? with | some s, some u => decide (u.kind = 3) && decide (u.pos = wrap64 (s.pos + 1)) | _, _ => false
/-- a primary that begins with an atom, and its priority -/
def atomP (tm : Int → Rd → Tm × Rd) (n : Nat) (most : Int) (s : Sn) (r : Rd) : Tm × Int × Rd :=
  if s.near then let x := someP L tm n [] { r with at_ := r.at_ + 2 }; (structTm s.text x.1, 0, x.2)
  else if s.text.data.toList = [45] ∧ r.nearI L = true then (intTm (wrap64 (-(match L[r.at_ + 1]? with | some u => u.num | none => 0))), 0, { r with at_ := r.at_ + 2 })
  else match prefixP s.text with
    | some op => if op.prio ≤ most then let x := tm op.right { r with at_ := r.at_ + 1 }; (structTm s.text [x.1], op.prio, x.2) else (noTm, 0, { r with bad := true })
    | none => if (infixP s.text).isSome then (noTm, 0, { r with bad := true }) else (atomTm s.text, 0, { r with at_ := r.at_ + 1 })
/-- what stands in brackets, behind its ( -/
def roundP (tm : Int → Rd → Tm × Rd) (r : Rd) : Tm × Rd :=
  match L[r.at_]?, L[r.at_ + 1]? with
  | some s, some u => if !r.bad && decide (s.kind = 1) && decide (u.kind = 4) && eqT [41] u.text then (atomTm s.text, { r with at_ := r.at_ + 2 }) else let x := tm 1200 r; (x.1, x.2.wants L [41])
  | _, _ => let x := tm 1200 r; (x.1, x.2.wants L [41])
def primP (tm : Int → Rd → Tm × Rd) (n : Nat) (most : Int) (r : Rd) : Tm × Int × Rd :=
  if r.bad then (noTm, 0, r) else
  match L[r.at_]? with
  | none => (noTm, 0, { r with bad := true })
  | some s =>
    if s.kind = 1 then atomP L tm n most s r
    else if s.kind = 4 ∧ s.text.data.toList = [40] then let x := roundP L tm { r with at_ := r.at_ + 1 }; (x.1, 0, x.2)
    else if s.kind = 4 ∧ s.text.data.toList = [91] then
      let r1 := { r with at_ := r.at_ + 1 }
      let m := r1.mark L [93]
      if m.1 then (atomTm (str [91, 93]), 0, m.2) else let x := rowP L tm n [] m.2; (consTm x.1 x.2.1, 0, x.2.2)
    else if s.kind = 3 then (intTm s.num, 0, { r with at_ := r.at_ + 1 })
    else if s.kind = 2 then let x := Rd.var { r with at_ := r.at_ + 1 } s.text; (x.1, 0, x.2)
    else (noTm, 0, { r with bad := true })
/-- the infix sign that comes -/
def Rd.infix (r : Rd) : Option OpP :=
  if r.bad then none else
  match L[r.at_]? with
  | none => none
  | some s => if s.kind = 4 ∧ s.text.data.toList = [44] then infixP (str [44]) else if s.kind = 1 ∧ s.near = false then infixP s.text else none
def infL (tm : Int → Rd → Tm × Rd) (most : Int) : Nat → Tm → Int → Rd → Tm × Rd
  | 0, t, _, r => (t, r)
  | n + 1, t, prio, r =>
    match r.infix L with
    | none => (t, r)
    | some op => if op.prio > most ∨ op.left < prio then (t, r) else
      let y := tm op.right { r with at_ := r.at_ + 1 }
      infL tm most n (structTm op.name [t, y.1]) op.prio y.2
/-- a term of at most a priority -/
def termP : Nat → Int → Rd → Tm × Rd
  | 0, _, r => (noTm, { r with bad := true, deep := r.deep + 1 })
  | d + 1, most, r =>
    if r.bad then (noTm, { r with deep := r.deep + 1 }) else
    let p := primP L (termP d) (L.length + 2) most { r with deep := r.deep + 1 }
    let q := infL L (termP d) most (L.length + 2) p.1 p.2.1 p.2.2
    (q.1, { q.2 with deep := q.2.deep - 1 })
end
end Go.Proofs.YtbkjcccbjnehbanGreatDoor
