/- How many terms a term has. Of no program. -/
import Derived.Test.YtmhmlkdoaojimaqTmPlain
namespace Go.Proofs.Ytmhmlkdoaojimaq

/-- how many terms -/
def Tm.n : Tm → Nat
  | .mk _ _ _ ks => 1 + ns ks
where ns : List Tm → Nat
  | [] => 0
  | t :: ts => t.n + ns ts
abbrev ns := Tm.n.ns
theorem ns_append (l m : List Tm) : ns (l ++ m) = ns l + ns m := by
  induction l with
  | nil => simp [ns, Tm.n.ns]
  | cons t r ih => simp only [List.cons_append, ns, Tm.n.ns] at *; omega
theorem n_mk (k : Int) (s : ByteArray) (m : Int) (ks : List Tm) : (Tm.mk k s m ks).n = 1 + ns ks := by simp [Tm.n, ns]
theorem ns_take_le (ks : List Tm) (j : Nat) : ns (ks.take j) ≤ ns ks := by
  have : ns (ks.take j) + ns (ks.drop j) = ns ks := by rw [← ns_append, List.take_append_drop]
  omega
end Go.Proofs.Ytmhmlkdoaojimaq
