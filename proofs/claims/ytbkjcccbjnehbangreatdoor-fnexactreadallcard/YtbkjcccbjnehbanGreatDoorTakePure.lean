/- A call that hands back one value in whatever world, and leaves that world as it was, may be taken first in a region that draws its order. -/
import Derived.WalkKit
import Derived.RegionTactic
import Derived.Deep.QuietTactic
import Derived.StillTail
namespace Go.Proofs.YtbkjcccbjnehbanGreatDoor
open Go.RowKit

section
variable {P : Program} {ops : Array Oper} {md : Region.Mode} {Q : Exit → Act → World → Prop}

/-- in every world the operation hands back v and leaves the world as it was: by itself, or by a call -/
def YieldsPure (P : Program) (ops : Array Oper) (o : Oper) (v : Value) (a : Act) : Prop :=
  Region.wanted o (yielded ops a.tmps) = true ∧ ∀ w, o.quietAt P a (fun w' => w' = w) w v

theorem YieldsPure.of_same {o : Oper} {v : Value} {a a' : Act} (hy : YieldsPure P ops o v a) (he : execOp a'.eval o = execOp a.eval o)
    (hw : Region.wanted o (yielded ops a'.tmps) = Region.wanted o (yielded ops a.tmps)) : YieldsPure P ops o v a' := by
  unfold YieldsPure Oper.quietAt at *
  rw [he, hw]
  exact hy

theorem YieldsPure.wpOp {i : Nat} {o : Oper} {v : Value} {a : Act} (hi : ops[i]? = some o) (hy : YieldsPure P ops o v a)
    {K : Act → World → Prop} {w : World} (h : K (a.put o.dst v) w) : wpOp P ops Q i K a w := by
  unfold Go.wpOp
  obtain ⟨hw, hv⟩ := hy
  simp only [hi, hw, if_true]
  exact .inl (Oper.wp_of_quiet (C := fun w' => w' = w) (K := fun a' => a' = a.put o.dst v) rfl (fun a' w' hw' ha' => by subst hw' ha'; exact h)
    ⟨v, fun w' hw' => by subst hw'; exact hv w', rfl⟩)

theorem wpOp_putPure {j : Nat} {oi oj : Oper} {v : Value} (hj : ops[j]? = some oj) (hap : oi.apart ops oj = true)
    (hsi : ∀ cs b, oi.op ≠ .select cs b) (hsj : ∀ cs b, oj.op ≠ .select cs b)
    (hQ : ∀ c a w, Q (.panic c) (a.put oi.dst v) w → Q (.panic c) a w) {K : Act → World → Prop} {a : Act} {w : World}
    (hy : YieldsPure P ops oi v a) (h : wpOp P ops Q j K (a.put oi.dst v) w) :
    wpOp P ops Q j (fun a' w' => YieldsPure P ops oi v a' ∧ K (a'.put oi.dst v) w') a w := by
  obtain ⟨h1, h2, h3⟩ := Oper.apart_spec hap
  have keep : ∀ (a : Act), YieldsPure P ops oi v a → ∀ u, YieldsPure P ops oi v (a.put oj.dst u) := fun a hy u =>
    hy.of_same (execOp_put oi hsi a oj.dst u h3) (wanted_put oi a oj.dst u h3)
  have keepD : ∀ d, YieldsPure P ops oi v { a with defers := d :: a.defers } := fun d => hy.of_same rfl rfl
  unfold wpOp at *
  simp only [hj] at *
  rw [wanted_put oj a oi.dst v h1] at h
  split
  · rename_i hw
    simp only [hw, if_true] at h
    rcases h with h | ⟨hasks, hlets⟩
    case inr => exact .inr ⟨by unfold Oper.asks at *; rw [execOp_put oj hsj a oi.dst v h1] at hasks; exact hasks, hlets⟩
    refine .inl ?_
    unfold Oper.wp at *
    rw [execOp_put oj hsj a oi.dst v h1] at h
    generalize (execOp a.eval oj).run P w = r at *
    cases r with
    | ok n w' =>
      cases n <;> simp only [Oper.upon] at h ⊢
      case value u => exact ⟨keep a hy u, by rw [← Act.put_comm a v u h2]; exact h⟩
      case skip => exact ⟨keep a hy _, by rw [← Act.put_comm a v undef h2]; exact h⟩
      case defer d =>
        refine ⟨keep _ (keepD d) _, ?_⟩
        rw [← Act.put_comm _ v undef h2, ← Act.put_defers]
        exact h
      case enter f args =>
        refine Calls.mono h fun e w'' he => ?_
        cases e with
        | returned u => exact ⟨keep a hy u, by rw [← Act.put_comm a v u h2]; exact he⟩
        | panicked c => exact hQ _ _ _ he
        | outgrown => exact he
      case row row args => exact Rows.mono h fun u w'' he => ⟨keep a hy u, by rw [← Act.put_comm a v u h2]; exact he⟩
    | halt x w' =>
      cases x <;> simp only [Oper.upon] at h ⊢
      case panic u => exact hQ _ _ _ h
  · rename_i hw
    simp only [hw] at h
    exact ⟨keep a hy _, by rw [← Act.put_comm a v undef h2]; exact h⟩

theorem wpAny_firstPure {i : Nat} {oi : Oper} {v : Value} (hi : ops[i]? = some oi) (hsel : ∀ (j : Nat) (o : Oper) cs b, ops[j]? = some o → o.op ≠ .select cs b)
    (hQ : ∀ c a w, Q (.panic c) (a.put oi.dst v) w → Q (.panic c) a w) :
    ∀ (fuel : Nat) (listed : Array Bool) (a : Act) (w : World),
      (∀ j oj, ops[j]? = some oj → j ≠ i → listed.getD j true = false → (∀ e ∈ oj.after, Region.binds md e = true → e.on ≠ i) → oi.apart ops oj = true) →
      i ∈ Region.ready md ops listed → YieldsPure P ops oi v a →
      wpAny P md ops Q fuel (listed.setIfInBounds i true) (a.put oi.dst v) w → wpAny P md ops Q (fuel + 1) listed a w := by
  intro fuel
  induction fuel with
  | zero =>
    intro listed a w _ hr hy H
    refine ⟨fun h => (by rw [h] at hr; cases hr), fun j hj => ?_⟩
    by_cases hji : j = i
    · subst hji; exact hy.wpOp hi H
    · have := ready_mono hj hji
      rw [H.1] at this
      cases this
  | succ fuel ih =>
    intro listed a w hfree hr hy H
    refine ⟨fun h => (by rw [h] at hr; cases hr), fun j hj => ?_⟩
    by_cases hji : j = i
    · subst hji; exact hy.wpOp hi H
    · have h1 := H.2 j (ready_mono hj hji)
      obtain ⟨hjun, oj, hoj, hall⟩ := mem_ready.1 hj
      have hnot : ∀ e ∈ oj.after, Region.binds md e = true → e.on ≠ i := fun e he hb heq => by
        have h1 := hall e he hb
        have h0 := (mem_ready.1 hr).1
        rw [heq] at h1
        rcases Nat.lt_or_ge i listed.size with h' | h'
        · simp [h'] at h0 h1; rw [h0] at h1; cases h1
        · simp [Array.getElem?_eq_none h'] at h1
      have h2 := wpOp_putPure hoj (hfree j oj hoj hji hjun hnot) (fun cs b => hsel i oi cs b hi) (fun cs b => hsel j oj cs b hoj) hQ hy h1
      have hfree' : ∀ k ok, ops[k]? = some ok → k ≠ i → (listed.setIfInBounds j true).getD k true = false →
          (∀ e ∈ ok.after, Region.binds md e = true → e.on ≠ i) → oi.apart ops ok = true := fun k ok hk hki hun hno => by
        refine hfree k ok hk hki ?_ hno
        by_cases hjk : j = k
        · subst hjk; exact hjun
        · rw [getD_set_ne true hjk] at hun; exact hun
      refine wpOp_mono (fun a' w' h3 => ih (listed.setIfInBounds j true) a' w' hfree' (ready_mono hr (Ne.symm hji)) h3.1 ?_) h2
      rw [Array.setIfInBounds_comm _ _ hji]
      exact h3.2

/-- **The head of a region, in the order of its text, each operation pure, and behind it a tail that can only come in its own order.** -/
def headB (md : Region.Mode) (ops : Array Oper) (g : Nat) : Nat → Nat → Array Bool → Bool
  | 0, k, listed => Region.seqB md ops g k listed
  | m + 1, k, listed => Region.free md ops listed k && (Region.ready md ops listed).contains k && headB md ops g m (k + 1) (listed.setIfInBounds k true)

/-- the walk of the head, then the tail -/
def wpHead (P : Program) (ops : Array Oper) (Q : Act → Prop) : List Oper → Act → Prop
  | [], a => Q a
  | o :: rest, a => (∃ v, YieldsPure P ops o v a ∧ wpHead P ops Q rest (a.put o.dst v)) ∨ (Region.wanted o (yielded ops a.tmps) = false ∧ wpHead P ops Q rest (a.put o.dst undef))

theorem wpAny_of_headP (hs : Region.noSelect ops = true) (hQ : ∀ c (d : Option Nat) v a w, Q (.panic c) (a.put d v) w → Q (.panic c) a w) (w : World) (t : List Oper) (n : Nat) (ht : ∀ j, t[j]? = ops[n + j]?) :
    ∀ (l : List Oper) (k : Nat) (listed : Array Bool) (a : Act), (∀ j, j < l.length → l[j]? = ops[k + j]?) → k + l.length = n → headB md ops t.length l.length k listed = true →
      wpHead P ops (fun a' => wpList P ops Q t a' w) l a → wpAny P md ops Q (l.length + t.length) listed a w := by
  intro l
  induction l with
  | nil =>
    intro k listed a _ hk hB h
    simp at hk
    subst hk
    have := wpAny_of_seq (md := md) (Q' := Q) t k listed a w ht hB h
    simpa using this
  | cons o r ih =>
    intro k listed a hl hk hB h
    simp only [List.length_cons, headB, Bool.and_eq_true] at hB
    obtain ⟨⟨hf, hr⟩, hB⟩ := hB
    have h0 : ops[k]? = some o := by have := hl 0 (by simp); simpa using this.symm
    have hr' : k ∈ Region.ready md ops listed := by simpa using hr
    have hrest : ∀ v, wpHead P ops (fun a' => wpList P ops Q t a' w) r (a.put o.dst v) → wpAny P md ops Q (r.length + t.length) (listed.setIfInBounds k true) (a.put o.dst v) w := fun v hv =>
      ih (k + 1) _ _ (fun j hj => by have := hl (j + 1) (by simp; omega); simpa [Nat.add_assoc, Nat.add_comm 1 j] using this) (by simp only [List.length_cons] at hk; omega) hB hv
    have e : (o :: r).length + t.length = (r.length + t.length) + 1 := by simp only [List.length_cons]; omega
    rw [e]
    rcases h with ⟨v, hy, h⟩ | ⟨hw, h⟩
    · exact wpAny_firstPure h0 (Region.noSelect_spec hs) (fun c a w => hQ c o.dst v a w) _ listed a w (Region.free_spec h0 hf) hr' hy (hrest v h)
    · exact wpAny_first h0 (Region.noSelect_spec hs) (fun c a w => hQ c o.dst undef a w) _ listed a w (Region.free_spec h0 hf) hr' (Or.inr ⟨hw, rfl⟩) (hrest undef h)

theorem wp_region_head {id : Nat} {a : Act} {w : World} {l : List Oper} (n : Nat) (hm : P.follows .mixedOrders = true) (hs : Region.noSelect l.toArray = true)
    (hB : headB .any l.toArray (l.length - n) n 0 (Array.replicate l.length false) = true) (hn : n ≤ l.length)
    (hQ : ∀ c (d : Option Nat) v a w, Q (.panic c) (a.put d v) w → Q (.panic c) a w)
    (h : wpHead P l.toArray (fun a' => wpList P l.toArray Q (l.drop n) a' w.drew) (l.take n) a) : (Code.region id l.toArray true).wp P Q a w := by
  refine wp_region_any hm ?_
  have htl : (l.take n).length = n := by simp; omega
  have H := wpAny_of_headP (md := .any) hs hQ w.drew (l.drop n) n (fun j => by simp) (l.take n) 0 (Array.replicate l.length false) a
    (fun j hj => by rw [htl] at hj; simp [hj]) (by omega) (by rw [htl, List.length_drop]; exact hB) h
  have e : (l.take n).length + (l.drop n).length = l.toArray.size := by simp; omega
  rw [e] at H
  simpa using H

theorem wpHead_nil {R : Act → Prop} {a : Act} (h : R a) : wpHead P ops R [] a := h
theorem wpHead_some {R : Act → Prop} {o : Oper} {rest : List Oper} {a : Act} (hw : Region.wanted o (yielded ops a.tmps) = true)
    (h : ∃ v, (∀ w, o.quietAt P a (fun w' => w' = w) w v) ∧ wpHead P ops R rest (a.put o.dst v)) : wpHead P ops R (o :: rest) a :=
  let ⟨v, hq, h⟩ := h
  Or.inl ⟨v, ⟨hw, hq⟩, h⟩
theorem wpHead_step {R : Act → Prop} {o : Oper} {rest : List Oper} {a : Act} (v : Value) (hw : Region.wanted o (yielded ops a.tmps) = true) (hq : ∀ w, o.quietAt P a (fun w' => w' = w) w v)
    (h : wpHead P ops R rest (a.put o.dst v)) : wpHead P ops R (o :: rest) a := Or.inl ⟨v, ⟨hw, hq⟩, h⟩
end
end Go.Proofs.YtbkjcccbjnehbanGreatDoor
