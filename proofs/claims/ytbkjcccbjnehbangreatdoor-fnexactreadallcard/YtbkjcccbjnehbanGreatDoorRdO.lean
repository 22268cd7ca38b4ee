/- How signs are read as terms, a plain function that may fail. Of no program. -/
import Derived.Test.YtbkjcccbjnehbanGreatDoorReadP
import Derived.Test.YtbkjcccbjnehbanGreatDoorSgP
namespace Go.Proofs.YtbkjcccbjnehbanGreatDoor
open Go.RowKit

/-- what is still to be read, and the names so far -/
structure St where
  rest : List Sg
  names : List ByteArray

def cLpar : ByteArray := ⟨#[40]⟩
def cRpar : ByteArray := ⟨#[41]⟩
def cComma : ByteArray := ⟨#[44]⟩
def cMinus : ByteArray := ⟨#[45]⟩
def cLbr : ByteArray := ⟨#[91]⟩
def cRbr : ByteArray := ⟨#[93]⟩
def cBar : ByteArray := ⟨#[124]⟩
def cUs : ByteArray := ⟨#[95]⟩
def nilTm : Tm := atomTm ⟨#[91, 93]⟩

/-- the mark l is next: what is behind it -/
def mk? (l : ByteArray) : List Sg → Option (List Sg)
  | x :: r => if x.kind = 4 ∧ x.text = l then some r else none
  | [] => none
theorem mk?_len {l : ByteArray} {r r' : List Sg} (h : mk? l r = some r') : r.length = r'.length + 1 := by
  unfold mk? at h
  split at h
  · split at h
    · cases h; rfl
    · cases h
  · cases h
theorem mk?_cons {l : ByteArray} {r r' : List Sg} (h : mk? l r = some r') : ∃ x, r = x :: r' ∧ x.kind = 4 ∧ x.text = l := by
  unfold mk? at h
  split at h
  · split at h
    · rename_i hh; cases h; exact ⟨_, rfl, hh⟩
    · cases h
  · cases h

def varO (s : ByteArray) (names : List ByteArray) : Nat × List ByteArray :=
  match (if s = cUs then none else names.findIdx? fun x => decide (x = s)) with
  | some i => (i, names)
  | none => (names.length, names ++ [s])

/-- terms with , between, up to a ) -/
def someO (five : Bool) (tm : Int → St → Option (Tm × St)) (ks : List Tm) (s : St) : Option (List Tm × St) :=
  match tm 999 s with
  | none => none
  | some (x, s1) =>
    if _h : s1.rest.length < s.rest.length then
      if five = true ∧ 5 ≤ ks.length then none else
      match mk? cRpar s1.rest with
      | some r => some (ks ++ [x], ⟨r, s1.names⟩)
      | none =>
        match _hc : mk? cComma s1.rest with
        | some r => someO five tm (ks ++ [x]) ⟨r, s1.names⟩
        | none => none
    else none
termination_by s.rest.length
decreasing_by have := mk?_len _hc; omega

/-- the items of a list, and its rest -/
def rowO (tm : Int → St → Option (Tm × St)) (ks : List Tm) (s : St) : Option (List Tm × Tm × St) :=
  match tm 999 s with
  | none => none
  | some (x, s1) =>
    if _h : s1.rest.length < s.rest.length then
      match mk? cRbr s1.rest with
      | some r => some (ks ++ [x], nilTm, ⟨r, s1.names⟩)
      | none =>
        match mk? cBar s1.rest with
        | some r =>
          match tm 999 ⟨r, s1.names⟩ with
          | none => none
          | some (y, s2) =>
            match mk? cRbr s2.rest with
            | some r2 => some (ks ++ [x], y, ⟨r2, s2.names⟩)
            | none => none
        | none =>
          match _hc : mk? cComma s1.rest with
          | some r => rowO tm (ks ++ [x]) ⟨r, s1.names⟩
          | none => none
    else none
termination_by s.rest.length
decreasing_by have := mk?_len _hc; omega

def infixO (rest : List Sg) : Option OpP :=
  match rest with
  | [] => none
  | x :: _ => if x.kind = 4 ∧ x.text = cComma then infixP cComma else if x.kind = 1 ∧ x.near = false then infixP x.text else none

def infO (tm : Int → St → Option (Tm × St)) (most : Int) (t : Tm) (prio : Int) (s : St) : Option (Tm × St) :=
  match infixO s.rest with
  | none => some (t, s)
  | some op =>
    if most < op.prio ∨ op.left < prio then some (t, s) else
    match tm op.right ⟨s.rest.tail, s.names⟩ with
    | none => none
    | some (y, s1) =>
      if _h : s1.rest.length < s.rest.length then infO tm most (structTm op.name [t, y]) op.prio s1 else none
termination_by s.rest.length

def nearO (x : Sg) (r : List Sg) : Bool :=
  match r with
  | u :: _ => decide (u.kind = 3) && decide (u.at_ = x.at_ + 1)
  | [] => false
def atomO (five : Bool) (tm : Int → St → Option (Tm × St)) (most : Int) (x : Sg) (r : List Sg) (names : List ByteArray) : Option (Tm × Int × St) :=
  if x.near then
    match mk? cLpar r with
    | none => none
    | some r' =>
      match someO five tm [] ⟨r', names⟩ with
      | none => none
      | some (ks, s) => some (structTm x.text ks, 0, s)
  else if x.text = cMinus ∧ nearO x r = true then some (intTm (wrap64 (-(r.head?.map (·.num)).getD 0)), 0, ⟨r.tail, names⟩)
  else match prefixP x.text with
    | some op =>
      if op.prio ≤ most then
        match tm op.right ⟨r, names⟩ with
        | none => none
        | some (y, s) => some (structTm x.text [y], op.prio, s)
      else none
    | none => if (infixP x.text).isSome then none else some (atomTm x.text, 0, ⟨r, names⟩)
def aloneO : List Sg → Option (ByteArray × List Sg)
  | x :: u :: r => if x.kind = 1 ∧ u.kind = 4 ∧ u.text = cRpar then some (x.text, r) else none
  | _ => none
def roundO (tm : Int → St → Option (Tm × St)) (r : List Sg) (names : List ByteArray) : Option (Tm × St) :=
  match aloneO r with
  | some (a, r') => some (atomTm a, ⟨r', names⟩)
  | none =>
    match tm 1200 ⟨r, names⟩ with
    | none => none
    | some (t, s) =>
      match mk? cRpar s.rest with
      | some r' => some (t, ⟨r', s.names⟩)
      | none => none
def listO (tm : Int → St → Option (Tm × St)) (r : List Sg) (names : List ByteArray) : Option (Tm × St) :=
  match mk? cRbr r with
  | some r' => some (nilTm, ⟨r', names⟩)
  | none =>
    match rowO tm [] ⟨r, names⟩ with
    | none => none
    | some (ks, y, s) => some (consTm ks y, s)
def primO (five : Bool) (tm : Int → St → Option (Tm × St)) (most : Int) (s : St) : Option (Tm × Int × St) :=
  match s.rest with
  | [] => none
  | x :: r =>
    if x.kind = 1 then atomO five tm most x r s.names
    else if x.kind = 4 ∧ x.text = cLpar then (roundO tm r s.names).map fun y => (y.1, 0, y.2)
    else if x.kind = 4 ∧ x.text = cLbr then (listO tm r s.names).map fun y => (y.1, 0, y.2)
    else if x.kind = 3 then some (intTm x.num, 0, ⟨r, s.names⟩)
    else if x.kind = 2 then some (varTm (varO x.text s.names).1, 0, ⟨r, (varO x.text s.names).2⟩)
    else none
/-- a term of at most a priority, d more may be begun in one another -/
def termO (five : Bool) : Nat → Int → St → Option (Tm × St)
  | 0, _, _ => none
  | d + 1, most, s =>
    match primO five (termO five d) most s with
    | none => none
    | some (t, prio, s1) => infO (termO five d) most t prio s1

/-- what is read is shorter then -/
def Short (tm : Int → St → Option (Tm × St)) : Prop := ∀ m s t s', tm m s = some (t, s') → s'.rest.length < s.rest.length
theorem someO_short {five : Bool} {tm : Int → St → Option (Tm × St)} (ks : List Tm) (s : St) : ∀ ks' s', someO five tm ks s = some (ks', s') → s'.rest.length < s.rest.length := by
  fun_induction someO five tm ks s <;> intro ks' s' h
  all_goals first | cases h | skip
  · rename_i hr; have := mk?_len hr; simp only; omega
  · rename_i hr ih; have h1 := ih _ _ h; have := mk?_len hr; simp only at h1; omega
theorem rowO_short {tm : Int → St → Option (Tm × St)} (ht : Short tm) (ks : List Tm) (s : St) : ∀ ks' y s', rowO tm ks s = some (ks', y, s') → s'.rest.length < s.rest.length := by
  fun_induction rowO tm ks s <;> intro ks' y' s' h
  all_goals first | cases h | skip
  · rename_i hr; have := mk?_len hr; simp only; omega
  · have hb := ‹mk? cBar _ = some _›; have hr := ‹mk? cRbr _ = some _›; have hy := ‹tm 999 (St.mk _ _) = some _›; have h1 := mk?_len hb; have h2 := mk?_len hr; have h3 := ht _ _ _ _ hy; simp only at h3; simp only; omega
  · rename_i hr ih; have h1 := ih _ _ _ h; have := mk?_len hr; simp only at h1; omega
theorem infO_short {tm : Int → St → Option (Tm × St)} (most : Int) (t : Tm) (prio : Int) (s : St) : ∀ t' s', infO tm most t prio s = some (t', s') → s'.rest.length ≤ s.rest.length := by
  fun_induction infO tm most t prio s <;> intro t' s' h
  all_goals first | (cases h; exact Nat.le_refl _) | cases h | skip
  rename_i ih; have := ih _ _ h; omega
theorem aloneO_short {r r' : List Sg} {a : ByteArray} (h : aloneO r = some (a, r')) : r'.length < r.length := by
  unfold aloneO at h
  split at h
  · split at h
    · cases h; simp only [List.length_cons]; omega
    · cases h
  · cases h
theorem roundO_short {tm : Int → St → Option (Tm × St)} (ht : Short tm) {r : List Sg} {names : List ByteArray} {t : Tm} {s : St} (h : roundO tm r names = some (t, s)) : s.rest.length < r.length := by
  unfold roundO at h
  split at h
  · rename_i ha; cases h; exact aloneO_short ha
  · split at h
    · cases h
    · rename_i hy
      split at h
      · rename_i hr; cases h; have := ht _ _ _ _ hy; have := mk?_len hr; simp only at *; omega
      · cases h
theorem listO_short {tm : Int → St → Option (Tm × St)} (ht : Short tm) {r : List Sg} {names : List ByteArray} {t : Tm} {s : St} (h : listO tm r names = some (t, s)) : s.rest.length < r.length := by
  unfold listO at h
  split at h
  · rename_i ha; cases h; have := mk?_len ha; simp only; omega
  · split at h
    · cases h
    · rename_i hy; cases h; exact rowO_short ht _ _ _ _ _ hy
theorem atomO_short {five : Bool} {tm : Int → St → Option (Tm × St)} (ht : Short tm) {most : Int} {x : Sg} {r : List Sg} {names : List ByteArray} {y : Tm × Int × St} (h : atomO five tm most x r names = some y) : y.2.2.rest.length ≤ r.length := by
  unfold atomO at h
  split at h
  · split at h
    · cases h
    · rename_i hr
      split at h
      · cases h
      · rename_i hs; cases h; have := someO_short _ _ _ _ hs; have := mk?_len hr; simp only at *; omega
  · split at h
    · cases h; simp
    · split at h
      · split at h
        · split at h
          · cases h
          · rename_i hy; cases h; have := ht _ _ _ _ hy; simp only at *; omega
        · cases h
      · split at h
        · cases h
        · cases h; exact Nat.le_refl _
theorem primO_short {five : Bool} {tm : Int → St → Option (Tm × St)} (ht : Short tm) {most : Int} {s : St} {y : Tm × Int × St} (h : primO five tm most s = some y) : y.2.2.rest.length < s.rest.length := by
  unfold primO at h
  split at h
  · cases h
  · rename_i x r e
    rw [e, List.length_cons]
    split at h
    · have := atomO_short ht h; omega
    · split at h
      · obtain ⟨z, hz, rfl⟩ := Option.map_eq_some_iff.1 h; have := roundO_short (t := z.1) (s := z.2) ht hz; simp only; omega
      · split at h
        · obtain ⟨z, hz, rfl⟩ := Option.map_eq_some_iff.1 h; have := listO_short (t := z.1) (s := z.2) ht hz; simp only; omega
        · split at h
          · cases h; simp
          · split at h
            · cases h; simp
            · cases h
theorem termO_short (five : Bool) : ∀ d, Short (termO five d)
  | 0, m, s, t, s', h => by unfold termO at h; cases h
  | d + 1, m, s, t, s', h => by
    unfold termO at h
    split at h
    · cases h
    · rename_i hp; have := primO_short (termO_short five d) hp; have := infO_short _ _ _ _ _ _ h; simp only at *; omega
end Go.Proofs.YtbkjcccbjnehbanGreatDoor
