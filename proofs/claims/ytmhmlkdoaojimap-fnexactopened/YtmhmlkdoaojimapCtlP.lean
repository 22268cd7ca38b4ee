/- The predicates of Control, and the name of a term's predicate. Of no program. -/
import Derived.Test.YtmhmlkdoaojimapMrg1
import Derived.Test.YtmhmlkdoaojimapMrg7
namespace Go.Proofs.Ytmhmlkdoaojimap

def ctlL : List (List UInt8) := [[116, 114, 117, 101, 47, 48], [102, 97, 105, 108, 47, 48], [33, 47, 48], [44, 47, 50], [59, 47, 50], [45, 62, 47, 50], [92, 43, 47, 49], [99, 97, 108, 108, 47, 49], [99, 97, 108, 108, 47, 50], [99, 97, 108, 108, 47, 51], [99, 97, 116, 99, 104, 47, 51], [116, 104, 114, 111, 119, 47, 49], [61, 47, 50], [92, 61, 47, 50], [61, 61, 47, 50], [105, 115, 47, 50], [60, 47, 50], [61, 58, 61, 47, 50], [118, 97, 114, 47, 49], [97, 116, 111, 109, 47, 49], [119, 114, 105, 116, 101, 47, 49], [97, 115, 115, 101, 114, 116, 122, 47, 49], [114, 101, 116, 114, 97, 99, 116, 47, 49], [58, 45, 47, 50], [58, 45, 47, 49], [45, 45, 62, 47, 50]]
/-- one of the predicates of Control -/
def ctlB (s : ByteArray) : Bool := ctlL.any fun l => s.toList == l
theorem ctl_no {s : ByteArray} (e0 : (s.toList == [116, 114, 117, 101, 47, 48]) = false) (e1 : (s.toList == [102, 97, 105, 108, 47, 48]) = false) (e2 : (s.toList == [33, 47, 48]) = false) (e3 : (s.toList == [44, 47, 50]) = false) (e4 : (s.toList == [59, 47, 50]) = false) (e5 : (s.toList == [45, 62, 47, 50]) = false) (e6 : (s.toList == [92, 43, 47, 49]) = false) (e7 : (s.toList == [99, 97, 108, 108, 47, 49]) = false) (e8 : (s.toList == [99, 97, 108, 108, 47, 50]) = false) (e9 : (s.toList == [99, 97, 108, 108, 47, 51]) = false) (e10 : (s.toList == [99, 97, 116, 99, 104, 47, 51]) = false) (e11 : (s.toList == [116, 104, 114, 111, 119, 47, 49]) = false) (e12 : (s.toList == [61, 47, 50]) = false) (e13 : (s.toList == [92, 61, 47, 50]) = false) (e14 : (s.toList == [61, 61, 47, 50]) = false) (e15 : (s.toList == [105, 115, 47, 50]) = false) (e16 : (s.toList == [60, 47, 50]) = false) (e17 : (s.toList == [61, 58, 61, 47, 50]) = false) (e18 : (s.toList == [118, 97, 114, 47, 49]) = false) (e19 : (s.toList == [97, 116, 111, 109, 47, 49]) = false) (e20 : (s.toList == [119, 114, 105, 116, 101, 47, 49]) = false) (e21 : (s.toList == [97, 115, 115, 101, 114, 116, 122, 47, 49]) = false) (e22 : (s.toList == [114, 101, 116, 114, 97, 99, 116, 47, 49]) = false) (e23 : (s.toList == [58, 45, 47, 50]) = false) (e24 : (s.toList == [58, 45, 47, 49]) = false) (e25 : (s.toList == [45, 45, 62, 47, 50]) = false) : ctlB s = false := by
  unfold ctlB ctlL
  simp only [List.any_cons, List.any_nil, Bool.or_false, e0, e1, e2, e3, e4, e5, e6, e7, e8, e9, e10, e11, e12, e13, e14, e15, e16, e17, e18, e19, e20, e21, e22, e23, e24, e25]
/-- a text is no constant -/
theorem toL_neq {s : ByteArray} {l : List UInt8} (h : ¬ s = ⟨l.toArray⟩) : (s.toList == l) = false := by
  rw [beq_eq_false_iff_ne]
  intro e
  apply h
  rw [ByteArray.toList_eq] at e
  subst e
  simp
theorem decI_le (n : Int) (h : -999999999 ≤ n ∧ n ≤ 999999999) : (decI n).length ≤ 11 := by
  unfold decI
  split
  · have := decR_len 10 n.natAbs (by omega)
    simp only [List.length_cons]; omega
  · unfold decB
    split
    · decide
    · have := decR_len 10 n.toNat (by omega)
      omega
/-- the name of a term's predicate; empty of one that has none -/
def predB : Tm → ByteArray
  | .mk k s _ ks => if k = 2 ∨ k = 4 then s ++ ⟨#[47]⟩ ++ ⟨(decI (ks.length : Int)).toArray⟩ else ⟨#[]⟩
end Go.Proofs.Ytmhmlkdoaojimap
