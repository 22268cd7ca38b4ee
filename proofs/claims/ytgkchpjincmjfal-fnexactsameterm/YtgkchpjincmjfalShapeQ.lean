/- What a walk over pairs of lists keeps: whether all is the same hangs on the pairs that are left. Plain. -/
import Derived.Test.YtgkchpjincmjfalShapeP
import Derived.Test.YtgkchpjincmjfalButI
namespace Go.Proofs.Ytgkchpjincmjfal
open Go.RowKit

def Tm.kidsZ : Tm → List Tm
  | .mk _ _ _ ks => ks
def same2 (q : Tm × Tm) : Prop := q.1.same q.2 = true
def pend (L : List (List Tm × List Tm)) : List (Tm × Tm) := L.flatMap fun p => p.1.zip p.2
theorem pend_append (L M : List (List Tm × List Tm)) : pend (L ++ M) = pend L ++ pend M := by simp [pend]
theorem pend_one (p : List Tm × List Tm) : pend [p] = p.1.zip p.2 := by simp [pend]
def wgt (L : List (List Tm × List Tm)) : Nat := (L.map fun p => 1 + ns p.1).sum
theorem wgt_append (L M : List (List Tm × List Tm)) : wgt (L ++ M) = wgt L + wgt M := by simp [wgt]
theorem wgt_one (p : List Tm × List Tm) : wgt [p] = 1 + ns p.1 := by simp [wgt]
theorem len_le_wgt (L : List (List Tm × List Tm)) : L.length ≤ wgt L := by
  induction L with
  | nil => simp [wgt]
  | cons p r ih =>
    have : wgt (p :: r) = (1 + ns p.1) + wgt r := by simp [wgt]
    rw [this, List.length_cons]; omega

theorem sames_zip : ∀ (ks us : List Tm), sames ks us = true ↔ ∀ q ∈ ks.zip us, same2 q
  | [], us => by simp [sames_nil]
  | t :: ts, [] => by simp [sames, Tm.same.sames]
  | t :: ts, u :: us => by
    rw [sames_cons, Bool.and_eq_true, sames_zip ts us]
    simp [same2]

theorem n_lt_ns {t : Tm} {ks : List Tm} (h : t ∈ ks) : t.n ≤ ns ks := by
  induction ks with
  | nil => cases h
  | cons u r ih =>
    have e : ns (u :: r) = u.n + ns r := by simp [ns, Tm.n.ns]
    rw [e]
    rcases List.mem_cons.1 h with rfl | h
    · omega
    · have := ih h; omega

/-- what is read at a marked place is the same where all that is left and no larger is -/
def Marked (Z : Nat → Prop) (w0 : World) (S : List (Addr × Addr × Int)) (Q : List (Tm × Tm)) : Prop :=
  ∀ a b n, (a, b, n) ∈ S → ∀ ks us : List Tm, TmsZ Z w0 ks a.block a.off → TmsZ Z w0 us b.block b.off → (ks.length : Int) = n → us.length = ks.length →
    (∀ q ∈ Q, q.1.n ≤ ns ks → same2 q) → sames ks us = true

theorem step_sem {R : Bool} {Q Q' : List (Tm × Tm)} {x y : Tm} (hs : R = true ↔ ∀ q ∈ Q, same2 q) (hin : (x, y) ∈ Q) (h1 : ∀ q ∈ Q, q = (x, y) ∨ q ∈ Q') (h2 : ∀ q ∈ Q', q ∈ Q ∨ q ∈ x.kidsZ.zip y.kidsZ)
    (hh : (x.same y = true) ↔ sames x.kidsZ y.kidsZ = true) (hk : (∀ q ∈ Q', same2 q) → sames x.kidsZ y.kidsZ = true) : R = true ↔ ∀ q ∈ Q', same2 q := by
  rw [hs]
  constructor
  · intro h q hq
    rcases h2 q hq with h' | h'
    · exact h q h'
    · have := (sames_zip _ _).1 (hh.1 (h _ hin))
      exact this q h'
  · intro h q hq
    rcases h1 q hq with rfl | h'
    · exact hh.2 (hk h)
    · exact h q h'

theorem step_marks {Z : Nat → Prop} {w0 : World} {S : List (Addr × Addr × Int)} {Q Q' : List (Tm × Tm)} {x y : Tm} (hm : Marked Z w0 S Q) (h1 : ∀ q ∈ Q, q = (x, y) ∨ q ∈ Q')
    (hh : (x.same y = true) ↔ sames x.kidsZ y.kidsZ = true) (hk : (∀ q ∈ Q', q.1.n ≤ ns x.kidsZ → same2 q) → sames x.kidsZ y.kidsZ = true) (hn : ns x.kidsZ < x.n) : Marked Z w0 S Q' := by
  intro a b n hab ks us t1 t2 l1 l2 hq
  refine hm a b n hab ks us t1 t2 l1 l2 fun q hqq hle => ?_
  rcases h1 q hqq with rfl | h'
  · exact hh.2 (hk fun q' hq' hle' => hq q' hq' (Nat.le_trans hle' (Nat.le_trans (Nat.le_of_lt hn) hle)))
  · exact hq q h' hle
end Go.Proofs.Ytgkchpjincmjfal
