/- The numbers of the TmVars of a term, each once, in order. Plain. -/
import Derived.Test.YtdcphfcenaafbalTmN
namespace Go.Proofs.Ytdcphfcenaafbal

def addN (n : Int) (out : List Int) : List Int := if n ∈ out then out else out ++ [n]
def Tm.vars : Tm → List Int → List Int
  | .mk k _ n ks, out => varsL ks (if k = 1 then addN n out else out)
where varsL : List Tm → List Int → List Int
  | [], out => out
  | t :: ts, out => varsL ts (t.vars out)
abbrev varsL := Tm.vars.varsL
theorem vars_mk (k : Int) (s : ByteArray) (n : Int) (ks : List Tm) (out : List Int) : (Tm.mk k s n ks).vars out = varsL ks (if k = 1 then addN n out else out) := by simp [Tm.vars, varsL]
theorem varsL_nil (out : List Int) : varsL [] out = out := rfl
theorem varsL_cons (t : Tm) (ts : List Tm) (out : List Int) : varsL (t :: ts) out = varsL ts (t.vars out) := rfl
theorem varsL_append (l m : List Tm) (out : List Int) : varsL (l ++ m) out = varsL m (varsL l out) := by
  induction l generalizing out with
  | nil => rfl
  | cons t r ih => rw [List.cons_append, varsL_cons, varsL_cons, ih]
theorem varsL_take {ks : List Tm} {j : Nat} (hj : j < ks.length) (out : List Int) : varsL (ks.take (j + 1)) out = ks[j].vars (varsL (ks.take j) out) := by
  rw [List.take_succ_eq_append_getElem hj, varsL_append]; rfl
theorem addN_len (n : Int) (out : List Int) : (addN n out).length ≤ out.length + 1 := by
  unfold addN; split <;> simp
theorem vars_len (t : Tm) : ∀ out, (t.vars out).length ≤ out.length + t.n := by
  refine tm_ind (p := fun t => ∀ out, (t.vars out).length ≤ out.length + t.n) ?_ t
  intro k s n ks h out
  rw [vars_mk, n_mk]
  have hL : ∀ (l : List Tm) o, (∀ t ∈ l, ∀ out, (t.vars out).length ≤ out.length + t.n) → (varsL l o).length ≤ o.length + ns l := by
    intro l
    induction l with
    | nil => intro o _; simp [varsL, Tm.vars.varsL]
    | cons t r ih =>
      intro o hl
      rw [varsL_cons]
      have h1 := hl t (by simp) o
      have h2 := ih (t.vars o) fun t' ht' => hl t' (by simp [ht'])
      have h3 : ns (t :: r) = t.n + ns r := by simp [ns, Tm.n.ns]
      omega
  have h1 := hL ks (if k = 1 then addN n out else out) h
  have h2 : (if k = 1 then addN n out else out).length ≤ out.length + 1 := by
    split
    · exact addN_len n out
    · omega
  omega
theorem varsL_len (l : List Tm) (o : List Int) : (varsL l o).length ≤ o.length + ns l := by
  induction l generalizing o with
  | nil => simp [varsL, Tm.vars.varsL]
  | cons t r ih =>
    rw [varsL_cons]
    have h1 := vars_len t o
    have h2 := ih (t.vars o)
    have h3 : ns (t :: r) = t.n + ns r := by simp [ns, Tm.n.ns]
    omega
end Go.Proofs.Ytdcphfcenaafbal
