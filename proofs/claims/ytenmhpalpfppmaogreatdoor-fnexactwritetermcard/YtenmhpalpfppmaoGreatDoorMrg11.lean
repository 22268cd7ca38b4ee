/- Four texts in one. -/
import Derived.WalkKit
import Derived.RegionTactic
import Derived.Deep.QuietTactic
import Derived.StillTail
import Derived.Test.YtenmhpalpfppmaoGreatDoorMrg10
import Derived.Laws.NewBlocks
import Derived.Deep.DeepCutAuto
import Derived.Test.YtenmhpalpfppmaoGreatDoorMrg2
import Derived.Laws.RangeAny
import Derived.Lib.IndexBytes
import Derived.Shelf.Unicode.DecodeSlow
/- A call that hands back one value in whatever world, and leaves that world as it was, may be taken first in a region that draws its order. -/
namespace Go.Proofs.YtenmhpalpfppmaoGreatDoor
open Go.RowKit

section
variable {P : Program} {ops : Array Oper} {md : Region.Mode} {Q : Exit → Act → World → Prop}

/-- in every world the operation hands back v and leaves the world as it was: by itself, or by a call -/
def YieldsPure (P : Program) (ops : Array Oper) (o : Oper) (v : Value) (a : Act) : Prop :=
  Region.wanted o (yielded ops a.tmps) = true ∧ ∀ w, o.quietAt P a (fun w' => w' = w) w v

theorem YieldsPure.of_same {o : Oper} {v : Value} {a a' : Act} (hy : YieldsPure P ops o v a) (he : execOp a'.eval o = execOp a.eval o)
    (hw : Region.wanted o (yielded ops a'.tmps) = Region.wanted o (yielded ops a.tmps)) : YieldsPure P ops o v a' := by
  unfold YieldsPure Oper.quietAt at *
  rw [he, hw]
  exact hy

theorem YieldsPure.wpOp {i : Nat} {o : Oper} {v : Value} {a : Act} (hi : ops[i]? = some o) (hy : YieldsPure P ops o v a)
    {K : Act → World → Prop} {w : World} (h : K (a.put o.dst v) w) : wpOp P ops Q i K a w := by
  unfold Go.wpOp
  obtain ⟨hw, hv⟩ := hy
  simp only [hi, hw, if_true]
  exact .inl (Oper.wp_of_quiet (C := fun w' => w' = w) (K := fun a' => a' = a.put o.dst v) rfl (fun a' w' hw' ha' => by subst hw' ha'; exact h)
    ⟨v, fun w' hw' => by subst hw'; exact hv w', rfl⟩)

theorem wpOp_putPure {j : Nat} {oi oj : Oper} {v : Value} (hj : ops[j]? = some oj) (hap : oi.apart ops oj = true)
    (hsi : ∀ cs b, oi.op ≠ .select cs b) (hsj : ∀ cs b, oj.op ≠ .select cs b)
    (hQ : ∀ c a w, Q (.panic c) (a.put oi.dst v) w → Q (.panic c) a w) {K : Act → World → Prop} {a : Act} {w : World}
    (hy : YieldsPure P ops oi v a) (h : wpOp P ops Q j K (a.put oi.dst v) w) :
    wpOp P ops Q j (fun a' w' => YieldsPure P ops oi v a' ∧ K (a'.put oi.dst v) w') a w := by
  obtain ⟨h1, h2, h3⟩ := Oper.apart_spec hap
  have keep : ∀ (a : Act), YieldsPure P ops oi v a → ∀ u, YieldsPure P ops oi v (a.put oj.dst u) := fun a hy u =>
    hy.of_same (execOp_put oi hsi a oj.dst u h3) (wanted_put oi a oj.dst u h3)
  have keepD : ∀ d, YieldsPure P ops oi v { a with defers := d :: a.defers } := fun d => hy.of_same rfl rfl
  unfold wpOp at *
  simp only [hj] at *
  rw [wanted_put oj a oi.dst v h1] at h
  split
  · rename_i hw
    simp only [hw, if_true] at h
    rcases h with h | ⟨hasks, hlets⟩
    case inr => exact .inr ⟨by unfold Oper.asks at *; rw [execOp_put oj hsj a oi.dst v h1] at hasks; exact hasks, hlets⟩
    refine .inl ?_
    unfold Oper.wp at *
    rw [execOp_put oj hsj a oi.dst v h1] at h
    generalize (execOp a.eval oj).run P w = r at *
    cases r with
    | ok n w' =>
      cases n <;> simp only [Oper.upon] at h ⊢
      case value u => exact ⟨keep a hy u, by rw [← Act.put_comm a v u h2]; exact h⟩
      case skip => exact ⟨keep a hy _, by rw [← Act.put_comm a v undef h2]; exact h⟩
      case defer d =>
        refine ⟨keep _ (keepD d) _, ?_⟩
        rw [← Act.put_comm _ v undef h2, ← Act.put_defers]
        exact h
      case enter f args =>
        refine Calls.mono h fun e w'' he => ?_
        cases e with
        | returned u => exact ⟨keep a hy u, by rw [← Act.put_comm a v u h2]; exact he⟩
        | panicked c => exact hQ _ _ _ he
        | outgrown => exact he
      case row row args => exact Rows.mono h fun u w'' he => ⟨keep a hy u, by rw [← Act.put_comm a v u h2]; exact he⟩
    | halt x w' =>
      cases x <;> simp only [Oper.upon] at h ⊢
      case panic u => exact hQ _ _ _ h
  · rename_i hw
    simp only [hw] at h
    exact ⟨keep a hy _, by rw [← Act.put_comm a v undef h2]; exact h⟩

theorem wpAny_firstPure {i : Nat} {oi : Oper} {v : Value} (hi : ops[i]? = some oi) (hsel : ∀ (j : Nat) (o : Oper) cs b, ops[j]? = some o → o.op ≠ .select cs b)
    (hQ : ∀ c a w, Q (.panic c) (a.put oi.dst v) w → Q (.panic c) a w) :
    ∀ (fuel : Nat) (listed : Array Bool) (a : Act) (w : World),
      (∀ j oj, ops[j]? = some oj → j ≠ i → listed.getD j true = false → (∀ e ∈ oj.after, Region.binds md e = true → e.on ≠ i) → oi.apart ops oj = true) →
      i ∈ Region.ready md ops listed → YieldsPure P ops oi v a →
      wpAny P md ops Q fuel (listed.setIfInBounds i true) (a.put oi.dst v) w → wpAny P md ops Q (fuel + 1) listed a w := by
  intro fuel
  induction fuel with
  | zero =>
    intro listed a w _ hr hy H
    refine ⟨fun h => (by rw [h] at hr; cases hr), fun j hj => ?_⟩
    by_cases hji : j = i
    · subst hji; exact hy.wpOp hi H
    · have := ready_mono hj hji
      rw [H.1] at this
      cases this
  | succ fuel ih =>
    intro listed a w hfree hr hy H
    refine ⟨fun h => (by rw [h] at hr; cases hr), fun j hj => ?_⟩
    by_cases hji : j = i
    · subst hji; exact hy.wpOp hi H
    · have h1 := H.2 j (ready_mono hj hji)
      obtain ⟨hjun, oj, hoj, hall⟩ := mem_ready.1 hj
      have hnot : ∀ e ∈ oj.after, Region.binds md e = true → e.on ≠ i := fun e he hb heq => by
        have h1 := hall e he hb
        have h0 := (mem_ready.1 hr).1
        rw [heq] at h1
        rcases Nat.lt_or_ge i listed.size with h' | h'
        · simp [h'] at h0 h1; rw [h0] at h1; cases h1
        · simp [Array.getElem?_eq_none h'] at h1
      have h2 := wpOp_putPure hoj (hfree j oj hoj hji hjun hnot) (fun cs b => hsel i oi cs b hi) (fun cs b => hsel j oj cs b hoj) hQ hy h1
      have hfree' : ∀ k ok, ops[k]? = some ok → k ≠ i → (listed.setIfInBounds j true).getD k true = false →
          (∀ e ∈ ok.after, Region.binds md e = true → e.on ≠ i) → oi.apart ops ok = true := fun k ok hk hki hun hno => by
        refine hfree k ok hk hki ?_ hno
        by_cases hjk : j = k
        · subst hjk; exact hjun
        · rw [getD_set_ne true hjk] at hun; exact hun
      refine wpOp_mono (fun a' w' h3 => ih (listed.setIfInBounds j true) a' w' hfree' (ready_mono hr (Ne.symm hji)) h3.1 ?_) h2
      rw [Array.setIfInBounds_comm _ _ hji]
      exact h3.2

/-- **The head of a region, in the order of its text, each operation pure, and behind it a tail that can only come in its own order.** -/
def headB (md : Region.Mode) (ops : Array Oper) (g : Nat) : Nat → Nat → Array Bool → Bool
  | 0, k, listed => Region.seqB md ops g k listed
  | m + 1, k, listed => Region.free md ops listed k && (Region.ready md ops listed).contains k && headB md ops g m (k + 1) (listed.setIfInBounds k true)

/-- the walk of the head, then the tail -/
def wpHead (P : Program) (ops : Array Oper) (Q : Act → Prop) : List Oper → Act → Prop
  | [], a => Q a
  | o :: rest, a => (∃ v, YieldsPure P ops o v a ∧ wpHead P ops Q rest (a.put o.dst v)) ∨ (Region.wanted o (yielded ops a.tmps) = false ∧ wpHead P ops Q rest (a.put o.dst undef))

theorem wpAny_of_headP (hs : Region.noSelect ops = true) (hQ : ∀ c (d : Option Nat) v a w, Q (.panic c) (a.put d v) w → Q (.panic c) a w) (w : World) (t : List Oper) (n : Nat) (ht : ∀ j, t[j]? = ops[n + j]?) :
    ∀ (l : List Oper) (k : Nat) (listed : Array Bool) (a : Act), (∀ j, j < l.length → l[j]? = ops[k + j]?) → k + l.length = n → headB md ops t.length l.length k listed = true →
      wpHead P ops (fun a' => wpList P ops Q t a' w) l a → wpAny P md ops Q (l.length + t.length) listed a w := by
  intro l
  induction l with
  | nil =>
    intro k listed a _ hk hB h
    simp at hk
    subst hk
    have := wpAny_of_seq (md := md) (Q' := Q) t k listed a w ht hB h
    simpa using this
  | cons o r ih =>
    intro k listed a hl hk hB h
    simp only [List.length_cons, headB, Bool.and_eq_true] at hB
    obtain ⟨⟨hf, hr⟩, hB⟩ := hB
    have h0 : ops[k]? = some o := by have := hl 0 (by simp); simpa using this.symm
    have hr' : k ∈ Region.ready md ops listed := by simpa using hr
    have hrest : ∀ v, wpHead P ops (fun a' => wpList P ops Q t a' w) r (a.put o.dst v) → wpAny P md ops Q (r.length + t.length) (listed.setIfInBounds k true) (a.put o.dst v) w := fun v hv =>
      ih (k + 1) _ _ (fun j hj => by have := hl (j + 1) (by simp; omega); simpa [Nat.add_assoc, Nat.add_comm 1 j] using this) (by simp only [List.length_cons] at hk; omega) hB hv
    have e : (o :: r).length + t.length = (r.length + t.length) + 1 := by simp only [List.length_cons]; omega
    rw [e]
    rcases h with ⟨v, hy, h⟩ | ⟨hw, h⟩
    · exact wpAny_firstPure h0 (Region.noSelect_spec hs) (fun c a w => hQ c o.dst v a w) _ listed a w (Region.free_spec h0 hf) hr' hy (hrest v h)
    · exact wpAny_first h0 (Region.noSelect_spec hs) (fun c a w => hQ c o.dst undef a w) _ listed a w (Region.free_spec h0 hf) hr' (Or.inr ⟨hw, rfl⟩) (hrest undef h)

theorem wp_region_head {id : Nat} {a : Act} {w : World} {l : List Oper} (n : Nat) (hm : P.follows .mixedOrders = true) (hs : Region.noSelect l.toArray = true)
    (hB : headB .any l.toArray (l.length - n) n 0 (Array.replicate l.length false) = true) (hn : n ≤ l.length)
    (hQ : ∀ c (d : Option Nat) v a w, Q (.panic c) (a.put d v) w → Q (.panic c) a w)
    (h : wpHead P l.toArray (fun a' => wpList P l.toArray Q (l.drop n) a' w.drew) (l.take n) a) : (Code.region id l.toArray true).wp P Q a w := by
  refine wp_region_any hm ?_
  have htl : (l.take n).length = n := by simp; omega
  have H := wpAny_of_headP (md := .any) hs hQ w.drew (l.drop n) n (fun j => by simp) (l.take n) 0 (Array.replicate l.length false) a
    (fun j hj => by rw [htl] at hj; simp [hj]) (by omega) (by rw [htl, List.length_drop]; exact hB) h
  have e : (l.take n).length + (l.drop n).length = l.toArray.size := by simp; omega
  rw [e] at H
  simpa using H

theorem wpHead_nil {R : Act → Prop} {a : Act} (h : R a) : wpHead P ops R [] a := h
theorem wpHead_some {R : Act → Prop} {o : Oper} {rest : List Oper} {a : Act} (hw : Region.wanted o (yielded ops a.tmps) = true)
    (h : ∃ v, (∀ w, o.quietAt P a (fun w' => w' = w) w v) ∧ wpHead P ops R rest (a.put o.dst v)) : wpHead P ops R (o :: rest) a :=
  let ⟨v, hq, h⟩ := h
  Or.inl ⟨v, ⟨hw, hq⟩, h⟩
theorem wpHead_step {R : Act → Prop} {o : Oper} {rest : List Oper} {a : Act} (v : Value) (hw : Region.wanted o (yielded ops a.tmps) = true) (hq : ∀ w, o.quietAt P a (fun w' => w' = w) w v)
    (h : wpHead P ops R rest (a.put o.dst v)) : wpHead P ops R (o :: rest) a := Or.inl ⟨v, ⟨hw, hq⟩, h⟩
end
end Go.Proofs.YtenmhpalpfppmaoGreatDoor

/- RegFact with a first operation that is pure and may come up at any time. -/
namespace Go.Proofs.YtenmhpalpfppmaoGreatDoor.FP
open Go.RowKit

def dstOf (ops : Array Oper) (i : Nat) : Nat := ((ops[i]?).bind (·.dst)).getD 0

def firstN (m n : Nat) : Array Bool := Array.ofFn (n := m) fun i => decide (i.val < n)

theorem pre_set {listed : Array Bool} {j : Nat} (h : listed.getD 0 false = true) : (listed.setIfInBounds j true).getD 0 false = true := by
  by_cases e : j = 0
  · subst e
    have hz : 0 < listed.size := by
      rcases Nat.eq_zero_or_pos listed.size with e | e
      · simp [Array.getElem?_eq_none (Nat.le_of_eq e)] at h
      · exact e
    simp [hz]
  · rw [getD_set_ne false e]; exact h

def sinkFrom (ops : Array Oper) (n : Nat) : Bool :=
  (List.range n).all fun i => decide (i < 1) || (List.range (n + 1)).any fun j => decide (i < j) && Region.waitsFor .any ops j i

/-- where an operation of the tail may come up, all of the head but the first has come up -/
theorem head_done {ops : Array Oper} {n t : Nat} {listed : Array Bool} (hs : sinkFrom ops n = true) (hc : Region.chainB .any ops n = true) (inv : HeadInv .any ops n listed) (ht : n ≤ t) (hr : t ∈ Region.ready .any ops listed) :
    ∀ k i, i + k = n → 1 ≤ i → i < n → listed.getD i false = true := by
  obtain ⟨_, ot, hot, hall⟩ := mem_ready.1 hr
  have htl : t < ops.size := (Array.getElem?_eq_some_iff.1 hot).1
  have wait : ∀ j i, Region.waitsFor .any ops j i = true → (j = t ∨ listed.getD j false = true) → listed.getD i false = true := fun j i hw hj => by
    obtain ⟨oj, hoj, e, he, hb, rfl⟩ := Region.waitsFor_spec hw
    rcases hj with rfl | hj
    · rw [hot] at hoj; cases hoj; exact hall e he hb
    · exact inv.closed j oj hoj hj e he hb
  have etn : t = n := by
    refine Classical.byContradiction fun hne => ?_
    have hw := List.all_eq_true.1 hc t (List.mem_range.2 htl)
    rw [Bool.or_eq_true] at hw
    rcases hw with hw | hw
    · exact hne (Nat.le_antisymm (of_decide_eq_true hw) ht)
    · have h1 := wait t (t - 1) hw (Or.inl rfl)
      rw [getD_both (inv.tail (t - 1) (by omega) (by omega))] at h1
      cases h1
  intro k
  induction k using Nat.strongRecOn with
  | _ k ih =>
    intro i hik h1 hin
    have hw := List.all_eq_true.1 hs i (List.mem_range.2 hin)
    rw [Bool.or_eq_true] at hw
    rcases hw with hw | hw
    · have := of_decide_eq_true hw; omega
    · obtain ⟨j, hj, hw⟩ := List.any_eq_true.1 hw
      rw [Bool.and_eq_true] at hw
      have hij := of_decide_eq_true hw.1
      have hjn := List.mem_range.1 hj
      refine wait j i hw.2 ?_
      by_cases e : j = n
      · exact Or.inl (e.trans etn.symm)
      · exact Or.inr (ih (n - j) (by omega) j (by omega) (by omega) (by omega))
theorem tail_waitsF {ops : Array Oper} {n : Nat} {listed : Array Bool} (hs : sinkFrom ops n = true) (hc : Region.chainB .any ops n = true) (inv : HeadInv .any ops n listed) {i t : Nat} (h1 : 1 ≤ i) (hi : i < n) (hun : listed.getD i true = false) (ht : n ≤ t) : t ∉ Region.ready .any ops listed := fun hr => by
  have := head_done hs hc inv ht hr (n - i) i (by omega) h1 hi
  rw [getD_both hun] at this
  cases this

/-- the look at a region's text -/
def factsB (ops : Array Oper) (n : Nat) : Bool :=
  decide (n < ops.size) && sinkFrom ops n && Region.chainB .any ops n && Region.seqB .any ops (ops.size - n) n (firstN ops.size n) &&
  (List.range n).all (fun i => match ops[i]? with | some o => o.guard.isNone && o.dst.isSome && o.after.all (fun e => !Region.binds .any e || decide (e.on < i)) && ((List.range i).all fun j => dstOf ops j != dstOf ops i) | none => false)

structure FrameAt (ops : Array Oper) (n : Nat) (a0 a : Act) : Prop where
  size : a.tmps.size = a0.tmps.size
  defers : a.defers = a0.defers
  same : ∀ s, (∀ i, i < n → dstOf ops i ≠ s) → a.tmps.getD s undef = a0.tmps.getD s undef

def putN (ops : Array Oper) (a0 : Act) (vals : Nat → Value) : Nat → Act
  | 0 => a0
  | k + 1 => (putN ops a0 vals k).put ((ops[k]?).bind (·.dst)) (vals k)

section
variable {P : Program} {ops : Array Oper} {Q : Exit → Act → World → Prop} {n : Nat}

theorem put_getD {a : Act} {d s : Nat} {v : Value} (hd : d < a.tmps.size) : (a.put (some d) v).tmps.getD s undef = if d = s then v else a.tmps.getD s undef := by
  unfold Act.put
  by_cases h : d = s
  · subst h; simp [hd]
  · simp [h, Array.getElem?_setIfInBounds_ne h]
theorem put_size {a : Act} {d : Nat} {v : Value} : (a.put (some d) v).tmps.size = a.tmps.size := by unfold Act.put; simp
theorem put_defers {a : Act} {d : Nat} {v : Value} : (a.put (some d) v).defers = a.defers := by unfold Act.put; rfl

structure FactsOk (ops : Array Oper) (n : Nat) : Prop where
  lt : n < ops.size
  sink : sinkFrom ops n = true
  chain : Region.chainB .any ops n = true
  seq : Region.seqB .any ops (ops.size - n) n (firstN ops.size n) = true
  ops : ∀ i, i < n → ∃ o d, ops[i]? = some o ∧ o.guard = none ∧ o.dst = some d ∧ dstOf ops i = d ∧ (∀ e ∈ o.after, Region.binds .any e = true → e.on < i) ∧ ∀ j, j < i → dstOf ops j ≠ d

theorem factsOk_of (h : factsB ops n = true) : FactsOk ops n := by
  unfold factsB at h
  simp only [Bool.and_eq_true, decide_eq_true_eq] at h
  obtain ⟨⟨⟨⟨h1, h2⟩, h3⟩, h4⟩, h5⟩ := h
  refine ⟨h1, h2, h3, h4, fun i hi => ?_⟩
  have h6 := List.all_eq_true.1 h5 i (by simpa using hi)
  cases ho : ops[i]? with
  | none => rw [ho] at h6; cases h6
  | some o =>
    rw [ho] at h6
    simp only [Bool.and_eq_true] at h6
    obtain ⟨⟨⟨h7, h8⟩, h9⟩, h10⟩ := h6
    obtain ⟨d, hd⟩ := Option.isSome_iff_exists.1 h8
    have hdd : dstOf ops i = d := by unfold dstOf; rw [ho]; simp [hd]
    refine ⟨o, d, rfl, by simpa using h7, hd, hdd, fun e he hb => ?_, fun j hj => ?_⟩
    · obtain ⟨q, hq, rfl⟩ := Array.mem_iff_getElem.1 he
      have := Array.all_eq_true.1 h9 q hq
      rw [hb] at this
      simpa using this
    · have := List.all_eq_true.1 h10 j (by simpa using hj)
      rw [hdd] at this
      simpa using this

theorem putN_at (hf : FactsOk ops n) {a0 : Act} (hsz : ∀ i, i < n → dstOf ops i < a0.tmps.size) (vals : Nat → Value) : ∀ k, k ≤ n →
    (putN ops a0 vals k).tmps.size = a0.tmps.size ∧ (putN ops a0 vals k).defers = a0.defers ∧ (∀ i, i < k → (putN ops a0 vals k).tmps.getD (dstOf ops i) undef = vals i) ∧ ∀ s, (∀ i, i < k → dstOf ops i ≠ s) → (putN ops a0 vals k).tmps.getD s undef = a0.tmps.getD s undef
  | 0, _ => ⟨rfl, rfl, fun i hi => absurd hi (Nat.not_lt_zero _), fun _ _ => rfl⟩
  | k + 1, hk => by
    obtain ⟨h1, h2, h3, h4⟩ := putN_at hf hsz vals k (by omega)
    obtain ⟨o, d, ho, _, hd, hdd, _, hne⟩ := hf.ops k (by omega)
    have hlt := hsz k (by omega)
    rw [hdd] at hlt
    have e : putN ops a0 vals (k + 1) = (putN ops a0 vals k).put (some d) (vals k) := by
      show (putN ops a0 vals k).put ((ops[k]?).bind (·.dst)) (vals k) = _
      rw [ho]; simp [hd]
    rw [e]
    refine ⟨by rw [put_size]; exact h1, by rw [put_defers]; exact h2, fun i hi => ?_, fun s hs => ?_⟩
    · rw [put_getD (by omega)]
      by_cases hik : i = k
      · subst hik; rw [if_pos hdd.symm]
      · rw [if_neg (fun e => hne i (by omega) e.symm)]
        exact h3 i (by omega)
    · rw [put_getD (by omega), if_neg (fun e => hs k (by omega) (by rw [hdd]; exact e))]
      exact h4 s fun i hi => hs i (by omega)

theorem frame_putN (hf : FactsOk ops n) {a0 a : Act} (hsz : ∀ i, i < n → dstOf ops i < a0.tmps.size) (h : FrameAt ops n a0 a) : a = putN ops a0 (fun i => a.tmps.getD (dstOf ops i) undef) n := by
  obtain ⟨h1, h2, h3, h4⟩ := putN_at hf hsz (fun i => a.tmps.getD (dstOf ops i) undef) n (Nat.le_refl _)
  generalize putN ops a0 (fun i => a.tmps.getD (dstOf ops i) undef) n = b at *
  have hg : ∀ s, a.tmps.getD s undef = b.tmps.getD s undef := fun s => by
    by_cases hs : ∃ i, i < n ∧ dstOf ops i = s
    · obtain ⟨i, hi, rfl⟩ := hs
      exact (h3 i hi).symm
    · have hs' : ∀ i, i < n → dstOf ops i ≠ s := fun i hi e => hs ⟨i, hi, e⟩
      rw [h.same s hs', h4 s hs']
  obtain ⟨at', ad⟩ := a
  obtain ⟨bt, bd⟩ := b
  have e2 : ad = bd := h.defers.trans h2.symm
  have e1 : at' = bt := by
    apply Array.ext
    · exact h.size.trans h1.symm
    · intro i hi1 hi2
      have := hg i
      simpa [Array.getD, hi1, hi2] using this
  subst e1 e2
  rfl

/-- what stands when the operations that are listed have come up -/
structure FInv (ops : Array Oper) (n : Nat) (φ : Nat → Value → List Nat → World → Prop) (a0 : Act) (w0 : World) (S : Nat → List Nat) (listed : Array Bool) (a : Act) (w : World) : Prop where
  head : HeadInv .any ops n listed
  pre : listed.getD 0 false = true
  later : Below w0.heap.size w0 w
  frame : FrameAt ops n a0 a
  facts : ∀ i, i < n → listed.getD i false = true → φ i (a.tmps.getD (dstOf ops i) undef) (S i) w ∧ ∀ f ∈ S i, w0.heap.size ≤ f ∧ f < w.heap.size
  apart : ∀ i j, i < n → j < n → listed.getD i false = true → listed.getD j false = true → i ≠ j → ∀ f ∈ S i, f ∉ S j

theorem count_set {listed : Array Bool} {i : Nat} (h : listed.getD i true = false) : (listed.setIfInBounds i true).count true = listed.count true + 1 := by
  have hlt : i < listed.size := by
    rcases Nat.lt_or_ge i listed.size with h' | h'
    · exact h'
    · simp [Array.getElem?_eq_none h'] at h
  have hf : listed[i] = false := by simpa [hlt] using h
  rw [Array.setIfInBounds, dif_pos hlt, Array.count_set hlt]
  simp [hf]

theorem facts_any {φ : Nat → Value → List Nat → World → Prop} {a0 : Act} {w0 : World} (hf : FactsOk ops n) (hsz : ∀ i, i < n → dstOf ops i < a0.tmps.size)
    (stab : ∀ i v S w w', i < n → φ i v S w → Below w.heap.size w w' → φ i v S w')
    (hop : ∀ i o, i < n → ops[i]? = some o → ∀ a w, Below w0.heap.size w0 w → FrameAt ops n a0 a → (∀ e ∈ o.after, Region.binds .any e = true → ∃ S, φ e.on (a.tmps.getD (dstOf ops e.on) undef) S w) → o.wp P a w (fun a' w' => ∃ v, a' = a.put o.dst v ∧ Below w.heap.size w w' ∧ ∃ S, φ i v S w' ∧ ∀ f ∈ S, w.heap.size ≤ f ∧ f < w'.heap.size) Q)
    (l : List Oper) (hl : ops = l.toArray)
    (hend : ∀ (vals : Nat → Value) (S : Nat → List Nat) w, Below w0.heap.size w0 w → (∀ i, i < n → φ i (vals i) (S i) w ∧ ∀ f ∈ S i, w0.heap.size ≤ f ∧ f < w.heap.size) → (∀ i j, i < n → j < n → i ≠ j → ∀ f ∈ S i, f ∉ S j) → wpList P ops Q (l.drop n) (putN ops a0 vals n) w) :
    ∀ (f : Nat) (S : Nat → List Nat) (listed : Array Bool) (a : Act) (w : World), FInv ops n φ a0 w0 S listed a w → listed.count true + f = n → wpAny P .any ops Q (f + (ops.size - n)) listed a w
  | 0, S, listed, a, w, h, hc => by
    have hlen : (l.drop n).length = ops.size - n := by rw [hl]; simp
    have hall : ∀ i, i < n → listed.getD i false = true := by
      intro i hi
      cases hq : listed.getD i false with
      | true => rfl
      | false =>
        exfalso
        have hlt : i < listed.size := by rw [h.head.size]; have := hf.lt; omega
        have h1 := count_set (getD_in hlt hq)
        have h2 : (listed.setIfInBounds i true).count true ≤ n := by
          have h3 : ∀ t, n ≤ t → t < ops.size → (listed.setIfInBounds i true).getD t true = false := fun t ht ht' => by rw [getD_set_ne true (by omega)]; exact h.head.tail t ht ht'
          have hsz2 : (listed.setIfInBounds i true).size = ops.size := by simp [h.head.size]
          generalize listed.setIfInBounds i true = L at *
          have e : L.toList = L.toList.take n ++ L.toList.drop n := (List.take_append_drop n _).symm
          rw [← Array.count_toList, e, List.count_append]
          have z : (L.toList.drop n).count true = 0 := by
            rw [List.count_eq_zero]
            intro hm
            obtain ⟨q, hq1, hq2⟩ := List.getElem_of_mem hm
            rw [List.length_drop, Array.length_toList] at hq1
            rw [List.getElem_drop] at hq2
            have := h3 (n + q) (by omega) (by omega)
            have hlt2 : n + q < L.size := by omega
            simp [hlt2] at this
            simp at hq2
            rw [hq2] at this
            cases this
          have z2 := List.count_le_length (a := true) (l := L.toList.take n)
          rw [List.length_take] at z2
          omega
        omega
    have hlst : listed = firstN ops.size n := by
      apply Array.ext
      · rw [h.head.size]; simp [firstN]
      · intro i h1 h2
        simp only [firstN, Array.getElem_ofFn]
        by_cases hi : i < n
        · have := hall i hi
          simpa [h1, hi] using this
        · have := h.head.tail i (by omega) (by rw [← h.head.size]; exact h1)
          simpa [h1, hi] using this
    have hw : wpList P ops Q (l.drop n) a w := by
      rw [frame_putN hf hsz h.frame]
      exact hend _ S w h.later (fun i hi => h.facts i hi (hall i hi)) fun i j hi hj hne => h.apart i j hi hj (hall i hi) (hall j hj) hne
    have := wpAny_of_seq (md := .any) (Q' := Q) (l.drop n) n listed a w (fun j => by rw [hl]; simp [List.getElem?_drop]) (by rw [hlen, hlst]; exact hf.seq) hw
    rw [hlen] at this
    rw [Nat.zero_add]
    exact this
  | f + 1, S, listed, a, w, h, hc => by
    rw [show f + 1 + (ops.size - n) = (f + (ops.size - n)) + 1 by omega]
    -- the first that has not come up
    obtain ⟨i, hin, hiu⟩ : ∃ i, i < n ∧ listed.getD i true = false := by
      refine Classical.byContradiction fun hno => ?_
      have hall : ∀ i, i < n → listed.getD i false = true := fun i hi => by
        cases hq : listed.getD i false with
        | true => rfl
        | false => exact absurd ⟨i, hi, getD_in (by rw [h.head.size]; have := hf.lt; omega) hq⟩ hno
      have : n ≤ listed.count true := by
        have e : listed.toList = listed.toList.take n ++ listed.toList.drop n := (List.take_append_drop n _).symm
        rw [← Array.count_toList, e, List.count_append]
        have z : (listed.toList.take n).count true = (listed.toList.take n).length := by
          rw [List.count_eq_length]
          intro b hb
          obtain ⟨q, hq1, hq2⟩ := List.getElem_of_mem hb
          rw [List.length_take, Array.length_toList] at hq1
          rw [List.getElem_take] at hq2
          have := hall q (by omega)
          have hlt2 : q < listed.size := by omega
          simp [hlt2] at this
          simp at hq2
          rw [← hq2, this]
        rw [z, List.length_take, Array.length_toList, h.head.size]
        have := hf.lt
        omega
      omega
    have hleast : ∃ i, i < n ∧ listed.getD i true = false ∧ ∀ j, j < i → listed.getD j false = true := by
      induction i using Nat.strongRecOn with
      | ind i ih =>
        by_cases hj : ∃ j, j < i ∧ listed.getD j false = false
        · obtain ⟨j, hj1, hj2⟩ := hj
          exact ih j hj1 (by omega) (getD_in (by rw [h.head.size]; have := hf.lt; omega) hj2)
        · refine ⟨i, hin, hiu, fun j hji => ?_⟩
          cases hq : listed.getD j false with
          | true => rfl
          | false => exact absurd ⟨j, hji, hq⟩ hj
    obtain ⟨i0, h01, h02, h03⟩ := hleast
    obtain ⟨o0, d0, ho0, _, _, _, haf0, _⟩ := hf.ops i0 h01
    have hr0 : i0 ∈ Region.ready .any ops listed := mem_ready.2 ⟨h02, o0, ho0, fun e he hb => h03 e.on (haf0 e he hb)⟩
    refine ⟨fun hn => (by rw [hn] at hr0; cases hr0), fun j hj => ?_⟩
    have hjn : j < n := Nat.lt_of_not_le fun hh => tail_waitsF hf.sink hf.chain h.head (by
      rcases Nat.eq_zero_or_pos i0 with e | e
      · rw [e] at h02; have := h.pre; have hz : 0 < listed.size := (by rw [h.head.size]; have := hf.lt; omega); simp [hz] at h02 this; rw [h02] at this; cases this
      · exact e) h01 h02 hh hj
    obtain ⟨hju, oj', hoj', hjall⟩ := mem_ready.1 hj
    obtain ⟨oj, d, hoj, hg, hd, hdd, haf, _⟩ := hf.ops j hjn
    obtain rfl : oj' = oj := Option.some.inj (hoj'.symm.trans hoj)
    have hstep := hop j oj' hjn hoj a w h.later h.frame (fun e he hb => ⟨_, (h.facts e.on (Nat.lt_trans (haf e he hb) hjn) (hjall e he hb)).1⟩)
    unfold wpOp
    rw [hoj]
    simp only [Region.wanted, hg, if_true]
    refine Or.inl (Oper.wp_mono ?_ hstep)
    rintro a' w' ⟨v, rfl, hb, Sj, hφ, hSj⟩
    rw [hd]
    have hdlt : d < a.tmps.size := by rw [h.frame.size, ← hdd]; exact hsz j hjn
    have hls : ∀ k, j ≠ k → (listed.setIfInBounds j true).getD k false = true → listed.getD k false = true := fun k hk hl => by rwa [getD_set_ne false hk] at hl
    refine facts_any hf hsz stab hop l hl hend f (fun k => if k = j then Sj else S k) _ _ _ ⟨h.head.set hj hjn, pre_set h.pre, h.later.trans (hb.mono h.later.size), ⟨by rw [put_size]; exact h.frame.size, by rw [put_defers]; exact h.frame.defers, fun s hs => ?_⟩, fun k hk hkl => ?_, fun k1 k2 h1 h2 hl1 hl2 hne f' hf1 hf2 => ?_⟩ (by rw [count_set hju]; omega)
    · rw [put_getD hdlt, if_neg (fun e => hs j hjn (by rw [hdd]; exact e))]
      exact h.frame.same s hs
    · by_cases hjk : j = k
      · subst hjk
        rw [put_getD hdlt, if_pos hdd.symm, if_pos rfl]
        exact ⟨hφ, fun f' hf' => ⟨Nat.le_trans h.later.size (hSj f' hf').1, (hSj f' hf').2⟩⟩
      · have hne : d ≠ dstOf ops k := by
          rcases Nat.lt_or_gt_of_ne hjk with hlt | hgt
          · obtain ⟨_, dk, _, _, _, hdk, _, hne⟩ := hf.ops k hk
            intro e
            exact hne j hlt (by rw [hdd, e, hdk])
          · obtain ⟨_, dj, _, _, hdj, hdj2, _, hne⟩ := hf.ops j hjn
            intro e
            exact hne k hgt (by rw [← e, ← hdd, hdj2])
        rw [put_getD hdlt, if_neg hne, if_neg (Ne.symm hjk)]
        obtain ⟨q1, q2⟩ := h.facts k hk (hls k hjk hkl)
        exact ⟨stab k _ _ _ _ hk q1 hb, fun f' hf' => ⟨(q2 f' hf').1, Nat.lt_of_lt_of_le (q2 f' hf').2 hb.size⟩⟩
    · by_cases e1 : k1 = j
      · rw [if_pos e1] at hf1
        rw [if_neg (fun e2 => hne (e1.trans e2.symm))] at hf2
        have := ((h.facts k2 h2 (hls k2 (fun e => hne (e1.trans e)) hl2)).2 f' hf2).2
        have := (hSj f' hf1).1
        omega
      · rw [if_neg e1] at hf1
        have hk1 := hls k1 (Ne.symm e1) hl1
        by_cases e2 : k2 = j
        · rw [if_pos e2] at hf2
          have := ((h.facts k1 h1 hk1).2 f' hf1).2
          have := (hSj f' hf2).1
          omega
        · rw [if_neg e2] at hf2
          exact h.apart k1 k2 h1 h2 hk1 (hls k2 (Ne.symm e2) hl2) hne f' hf1 hf2
end

/-- an operation waits for another one -/
def waitsOn (o : Oper) (j : Nat) : Bool := o.after.any fun e => Region.binds .any e && e.on == j

theorem wp_region_factsP {P : Program} {Q : Exit → Act → World → Prop} {id : Nat} {a0 : Act} {w : World} {l : List Oper} {o1 : Oper} {l1 : List Oper} {v1 : Value} (n : Nat) (φ : Nat → Value → List Nat → World → Prop) (hm : P.follows .mixedOrders = true) (hB : factsB l.toArray n = true)
    (N : Nat) (hN : a0.tmps.size = N) (hD : ((List.range n).all fun i => decide (dstOf l.toArray i < N)) = true)
    (h1n : 1 ≤ n) (hl1 : l = o1 :: l1) (hs : Region.noSelect l.toArray = true) (hfree : Region.free .any l.toArray (Array.replicate l.length false) 0 = true) (hrdy : (Region.ready .any l.toArray (Array.replicate l.length false)).contains 0 = true)
    (hQ : ∀ c (d : Option Nat) v a w, Q (.panic c) (a.put d v) w → Q (.panic c) a w)
    (hy : YieldsPure P l.toArray o1 v1 a0) (hφ : ∀ w', Below w.heap.size w w' → φ 0 v1 [] w')
    (stab : ∀ i v S w w', i < n → φ i v S w → Below w.heap.size w w' → φ i v S w')
    (hop : ∀ i o, i < n → l[i]? = some o → ∀ a w', Below w.heap.size w w' → (∀ s, (∀ i, i < n → dstOf l.toArray i ≠ s) → a.tmps.getD s undef = a0.tmps.getD s undef) → (∀ j, waitsOn o j = true → ∃ S, φ j (a.tmps.getD (dstOf l.toArray j) undef) S w') → o.wp P a w' (fun a' w'' => ∃ v, a' = a.put o.dst v ∧ Below w'.heap.size w' w'' ∧ ∃ S, φ i v S w'' ∧ ∀ f ∈ S, w'.heap.size ≤ f ∧ f < w''.heap.size) Q)
    (hend : ∀ (vals : Nat → Value) (S : Nat → List Nat) w', Below w.heap.size w w' → (∀ i, i < n → φ i (vals i) (S i) w' ∧ ∀ f ∈ S i, w.heap.size ≤ f ∧ f < w'.heap.size) → (∀ i j, i < n → j < n → i ≠ j → ∀ f ∈ S i, f ∉ S j) → wpList P l.toArray Q (l.drop n) (putN l.toArray a0 vals n) w') : (Code.region id l.toArray true).wp P Q a0 w := by
  have hf := factsOk_of hB
  have hsz : ∀ i, i < n → dstOf l.toArray i < a0.tmps.size := fun i hi => by
    have := List.all_eq_true.1 hD i (by simpa using hi)
    rw [hN]; simpa using this
  have hd : Below w.heap.size w w.drew := (Below.refl w.heap.size w).drew
  refine wp_region_any hm ?_
  have h0 : l.toArray[0]? = some o1 := by rw [hl1]; rfl
  have hlen : l.toArray.size = l.length := by simp
  have hln : n < l.length := by have := hf.lt; rw [hlen] at this; exact this
  obtain ⟨oo, d, hoo, hg, hdd, hdst, haf, _⟩ := hf.ops 0 (by omega)
  obtain rfl : oo = o1 := Option.some.inj (hoo.symm.trans h0)
  have hr0 : 0 ∈ Region.ready .any l.toArray (Array.replicate l.toArray.size false) := by rw [hlen]; simpa using hrdy
  have inv0 : HeadInv .any l.toArray n (Array.replicate l.toArray.size false) :=
    ⟨by simp, fun j oj _ hl => (by rw [getD_replicate_false] at hl; cases hl), fun t _ ht => getD_in (by simpa using ht) (getD_replicate_false _ _)⟩
  have inv1 := inv0.set hr0 (by omega)
  have hdlt : d < a0.tmps.size := by rw [← hdst]; exact hsz 0 (by omega)
  have hls : ∀ k, (Array.setIfInBounds (Array.replicate l.toArray.size false) 0 true).getD k false = true → k = 0 := fun k hk => by
    by_cases e : 0 = k
    · exact e.symm
    · rw [getD_set_ne false e, getD_replicate_false] at hk; cases hk
  have hpre : (Array.setIfInBounds (Array.replicate l.toArray.size false) 0 true).getD 0 false = true := by
    have hz : 0 < l.length := by omega
    simp [hz]
  have H := facts_any (P := P) (Q := Q) (φ := φ) (w0 := w) hf hsz stab (fun i o hi ho a w' hb hfr hdep => hop i o hi (by simpa using ho) a w' hb hfr.same fun j hj => by
    unfold waitsOn at hj
    obtain ⟨q, hq, he⟩ := Array.any_eq_true.1 hj
    simp only [Bool.and_eq_true, beq_iff_eq] at he
    rw [← he.2]
    exact hdep _ (Array.getElem_mem hq) he.1) l rfl hend (n - 1) (fun _ => []) (Array.setIfInBounds (Array.replicate l.toArray.size false) 0 true) (a0.put oo.dst v1) w.drew
    ⟨inv1, hpre, hd, ⟨by rw [hdd, put_size], by rw [hdd, put_defers], fun s hs => by rw [hdd, put_getD hdlt, if_neg (fun e => hs 0 (by omega) (by rw [hdst]; exact e))]⟩, fun i hi hl => by
      obtain rfl := hls i hl
      refine ⟨?_, by simp⟩
      rw [hdd, put_getD hdlt, if_pos hdst.symm]
      exact hφ _ hd, fun i j _ _ hi hj hne => absurd ((hls i hi).trans (hls j hj).symm) hne⟩ (by
      rw [count_set (by rw [hlen]; exact getD_in (by simp; omega) (getD_replicate_false _ _))]
      simp [Array.count_replicate]; omega)
  have e2 : n - 1 + (l.toArray.size - n) + 1 = l.toArray.size := by rw [hlen]; omega
  have H2 := wpAny_firstPure h0 (Region.noSelect_spec hs) (fun c a w => hQ c oo.dst v1 a w) _ (Array.replicate l.toArray.size false) a0 w.drew (Region.free_spec h0 (by rw [hlen]; exact hfree)) hr0 hy H
  rw [e2] at H2
  exact H2

theorem fact_enter {P : Program} {o : Oper} {a : Act} {w : World} {φ : Value → World → Prop} {Q : Exit → Act → World → Prop} {f : FuncId} {args : Array Value} (h : (execOp a.eval o).run P w = .ok (.enter f args) w) (hc : Calls P f args w fun e w' => ∃ v, e = .returned v ∧ Below w.heap.size w w' ∧ φ v w') : o.wp P a w (fun a' w' => ∃ v, a' = a.put o.dst v ∧ Below w.heap.size w w' ∧ φ v w') Q := by
  unfold Oper.wp
  rw [h]
  simp only [Oper.upon]
  exact hc.mono (by rintro e w' ⟨v, rfl, hk⟩; exact ⟨v, rfl, hk⟩)
theorem fact_call {P : Program} {o : Oper} {a : Act} {w : World} {φ : Value → World → Prop} {Q : Exit → Act → World → Prop} {f : FuncId} {fn : Func} {xs : Array Operand} {ats : Array TypeId} {args : Array Value} (hop : o.op = .call { callee := .value (.func f), args := xs, argTypes := ats }) (hf : P.funcs[f]? = some fn) (hname : (fn.name == "runtime.NumGoroutine") = false) (hb : fn.body.isSome = true)
    (hargs : xs.map a.eval = args) (hc : Calls P f args w fun e w' => ∃ v, e = .returned v ∧ Below w.heap.size w w' ∧ φ v w') : o.wp P a w (fun a' w' => ∃ v, a' = a.put o.dst v ∧ Below w.heap.size w w' ∧ φ v w') Q := by
  obtain ⟨c, hb⟩ := Option.isSome_iff_exists.1 hb
  have h1 : fn.name ≠ "runtime.NumGoroutine" := by simpa using hname
  have ef : a.eval (.func f) = .func (.func f) #[] #[] := rfl
  refine fact_enter ?_ hc
  unfold execOp
  simp [hop, resolve, Deferred.ofValue, invoke, ef, hargs, callFunc, hf, h1, hb]
theorem fact_value {P : Program} {o : Oper} {a : Act} {w w' : World} {φ : Value → World → Prop} {Q : Exit → Act → World → Prop} {v : Value} (h : (execOp a.eval o).run P w = .ok (.value v) w') (hb : Below w.heap.size w w') (hk : φ v w') : o.wp P a w (fun a' w' => ∃ v, a' = a.put o.dst v ∧ Below w.heap.size w w' ∧ φ v w') Q := by
  unfold Oper.wp
  rw [h]
  exact ⟨v, rfl, hb, hk⟩
end Go.Proofs.YtenmhpalpfppmaoGreatDoor.FP

/- The code's signer: what it holds, and how a sign is added. -/
namespace Go.Proofs.YtenmhpalpfppmaoGreatDoor
open Go.RowKit

/-- below N nothing has turned but block g -/
structure Fr (N g : Nat) (w w' : World) : Prop where
  os : w'.os = w.os
  tape : w'.tape = w.tape
  output : w'.output = w.output
  size : w.heap.size ≤ w'.heap.size
  block : ∀ k, k < N → k ≠ g → w'.heap[k]? = w.heap[k]?
theorem Fr.refl (N g : Nat) (w : World) : Fr N g w w := ⟨rfl, rfl, rfl, Nat.le_refl _, fun _ _ _ => rfl⟩
theorem Fr.trans {N g : Nat} {a b c : World} (h : Fr N g a b) (k : Fr N g b c) : Fr N g a c :=
  ⟨k.os.trans h.os, k.tape.trans h.tape, k.output.trans h.output, Nat.le_trans h.size k.size, fun i hi hg => (k.block i hi hg).trans (h.block i hi hg)⟩
theorem Fr.of_below {N g B : Nat} {w w' : World} (h : Below B w w') (hN : N ≤ B) : Fr N g w w' := ⟨h.os, h.tape, h.output, h.size, fun k hk _ => h.block k (by omega)⟩

/-- what the signer in block g holds: the text, the map, the signs so far in a row of their own above N, and the place behind -/
def SnAt (N g : Nat) (t : ByteArray) (mv : Value) (w : World) (L : List Sg) (b : Nat) : Prop :=
  ∃ vo, w.heap[g]? = some (.cells #[.string t, mv, vo, .int .i64 (b : Int)] 102 (0, 0)) ∧ SgRow w N L vo ∧ g < N ∧ N ≤ w.heap.size
theorem SnAt.keep {N g : Nat} {t : ByteArray} {mv : Value} {w w' : World} {L : List Sg} {b : Nat} (h : SnAt N g t mv w L b) (hb : Below w.heap.size w w') : SnAt N g t mv w' L b := by
  obtain ⟨vo, h1, h2, h3, h4⟩ := h
  exact ⟨vo, (hb.block g (by omega)).trans h1, h2.keep hb, h3, Nat.le_trans h4 hb.size⟩
theorem b4 {w : World} {g : Nat} {c0 c1 c2 c3 : Value} {T : TypeId} (h : w.heap[g]? = some (.cells #[c0, c1, c2, c3] T (0, 0))) :
    w.cell? ⟨g, 0, none⟩ = some c0 ∧ w.cell? ⟨g, 1, none⟩ = some c1 ∧ w.cell? ⟨g, 2, none⟩ = some c2 ∧ w.cell? ⟨g, 3, none⟩ = some c3 ∧ (∀ i, w.frozen? ⟨g, i, none⟩ = false) := by
  refine ⟨?_, ?_, ?_, ?_, ?_⟩
  · simp [World.cell?, h]
  · simp [World.cell?, h]
  · simp [World.cell?, h]
  · simp [World.cell?, h]
  · intro i; simp [World.frozen?, h]
theorem b5 {w : World} {g : Nat} {c0 c1 c2 c3 c4 : Value} {T : TypeId} (h : w.heap[g]? = some (.cells #[c0, c1, c2, c3, c4] T (0, 0))) :
    w.cell? ⟨g, 0, none⟩ = some c0 ∧ w.cell? ⟨g, 1, none⟩ = some c1 ∧ w.cell? ⟨g, 2, none⟩ = some c2 ∧ w.cell? ⟨g, 3, none⟩ = some c3 ∧ w.cell? ⟨g, 4, none⟩ = some c4 := by
  refine ⟨?_, ?_, ?_, ?_, ?_⟩
  · simp [World.cell?, h]
  · simp [World.cell?, h]
  · simp [World.cell?, h]
  · simp [World.cell?, h]
  · simp [World.cell?, h]
theorem set_at {w : World} {g i : Nat} {cur : Array Value} {T : TypeId} {fr : Nat × Nat} (h : w.heap[g]? = some (.cells cur T fr)) (v : Value) : (w.setCell ⟨g, i, none⟩ v).heap[g]? = some (.cells (cur.setIfInBounds i v) T fr) := by
  simp [World.setCell, Array.getElem?_modify, h]
theorem set_oth {w : World} {g i f : Nat} (v : Value) (hf : f ≠ g) : (w.setCell ⟨g, i, none⟩ v).heap[f]? = w.heap[f]? := by
  simp [World.setCell, Array.getElem?_modify, Ne.symm hf]
theorem set_size {w : World} {g i : Nat} (v : Value) : (w.setCell ⟨g, i, none⟩ v).heap.size = w.heap.size := by simp [World.setCell]

set_option maxHeartbeats 4000000 in
set_option maxRecDepth 20000 in
theorem add_any (N g : Nat) (t : ByteArray) (mv : Value) (L : List Sg) (b : Nat) (kind : Int) (text : ByteArray) (num : Int) (i e : Nat) (near : Bool) (w : World) (h : SnAt N g t mv w L b) (hL : L.length ≤ 3000)
    (hn : near = (decide (e < t.size) && decide ((at8 t e).toNat = 40))) :
    Calls Tryz.prog 94 #[.pointer (some ⟨g, 0, none⟩), .agg #[.int .i64 kind, .string text, .int .i64 num, .int .i64 (i : Int), .bool false], .int .i64 (e : Int)] w fun r w' => (∃ x, r = .returned x) ∧ SnAt N g t mv w' (L ++ [⟨kind, text, num, i, near⟩]) e ∧ Fr N g w w' := by
  obtain ⟨i0, hi, hz0, hz1, hz2⟩ := info_partsS infoS
  obtain ⟨vo, hg, hrow, hgN, hNw⟩ := h
  obtain ⟨ao, cp, rfl, hcp, hLc⟩ := hrow.shape
  have hgw : g < w.heap.size := by omega
  obtain ⟨c0, c1, c2, c3, cf⟩ := b4 hg
  have hE : (e < t.size ∧ ∃ hh : e < t.size, ((t[e].toNat : Int) == 40) = near) ∨ (¬ e < t.size ∧ near = false) := by
    by_cases he : e < t.size
    · refine Or.inl ⟨he, he, ?_⟩
      rw [hn, at8_eq t e he, decide_eq_true he, Bool.true_and, Bool.eq_iff_iff]; simp; omega
    · exact Or.inr ⟨he, by rw [hn, decide_eq_false he]; rfl⟩
  have HG : Hid (w.heap[g]? = some (.cells #[.string t, mv, .slice ao L.length cp, .int .i64 (b : Int)] 102 (0, 0))) := hg
  have HROW : Hid (SgRow w N L (.slice ao L.length cp)) := hrow
  have HL : Hid (L.length ≤ 3000) := hL
  clear hn hg hrow hL
  go_enter Tryz.func94, Tryz.ntmps94
  rcases hE with ⟨he, hh, e40⟩ | ⟨he, rfl⟩
  · have hce := t[e].toNat_lt
    go_upto_region 2 with fail
    clear e40
    obtain ⟨W, hW⟩ : ∃ W, W = w.alloc (.cells #[.int .i64 kind, .string text, .int .i64 num, .int .i64 (i : Int), .bool near] 66) := ⟨_, rfl⟩
    rw [← hW]
    have bW : Below w.heap.size w W := by rw [hW]; exact (Below.refl _ _).alloc (Nat.le_refl _) _
    have lW : W.heap.size = w.heap.size + 1 := by rw [hW]; simp
    have kW : W.heap[w.heap.size]? = some (.cells #[.int .i64 kind, .string text, .int .i64 num, .int .i64 (i : Int), .bool near] 66 (0, 0)) := by rw [hW]; exact heap_alloc_new _ _
    have HK : Hid (∀ w', Below W.heap.size W w' → w'.heap[g]? = some (.cells #[.string t, mv, .slice ao L.length cp, .int .i64 (b : Int)] 102 (0, 0)) ∧ w'.heap[w.heap.size]? = some (.cells #[.int .i64 kind, .string text, .int .i64 num, .int .i64 (i : Int), .bool near] 66 (0, 0)) ∧ SgRow w' N L (.slice ao L.length cp)) := fun w' hb =>
      ⟨(hb.block g (by omega)).trans ((bW.block g hgw).trans HG.out), (hb.block _ (by omega)).trans kW, (HROW.out.keep bW).keep hb⟩
    have HBW : Hid (Below w.heap.size w W) := bW
    clear hW kW bW c0 c1 c2 c3
    refine FP.wp_region_factsP (v1 := .pointer (some ⟨g, 0, none⟩)) 7 (fun q v S w' => match q with
      | 0 => v = .pointer (some ⟨g, 0, none⟩)
      | 1 => v = .pointer (some ⟨g, 0, none⟩)
      | 2 => v = .pointer (some ⟨g, 0, none⟩)
      | 3 => v = .pointer (some ⟨g, 2, none⟩)
      | 4 => v = .slice ao L.length cp
      | 5 => v = .agg #[.int .i64 kind, .string text, .int .i64 num, .int .i64 (i : Int), .bool near]
      | _ => ∃ g2, v = .slice (some ⟨g2, 0, none⟩) 1 1 ∧ w'.heap[g2]? = some (.cells #[.int .i64 kind, .string text, .int .i64 num, .int .i64 (i : Int), .bool near] 66 (0, 0)) ∧ W.heap.size ≤ g2) (by kernel_rfl) (by kernel_rfl) 37 rfl (by kernel_rfl) (by omega) rfl (by kernel_rfl) (by kernel_rfl) (by kernel_rfl) (fun _ d _ _ _ h => by cases d <;> exact h) ?_ (fun _ _ => rfl) ?_ ?_ ?_
    · refine ⟨rfl, fun w => ?_⟩
      go_simp
    · intro q v S w w' hq h hb
      match q, hq, h with
      | 0, _, h => exact h
      | 1, _, h => exact h
      | 2, _, h => exact h
      | 3, _, h => exact h
      | 4, _, h => exact h
      | 5, _, h => exact h
      | 6, _, ⟨g2, h1, h2, h3⟩ => exact ⟨g2, h1, (hb.block g2 (Array.getElem?_eq_some_iff.1 h2).1).trans h2, h3⟩
    · intro q o hq ho a w' hb hfr hdep
      obtain ⟨z0, z1, _⟩ := HK.out w' hb
      obtain ⟨x0, x1, x2, x3, _⟩ := b4 z0
      obtain ⟨y0, y1, y2, y3, y4⟩ := b5 z1
      have u0 : a.tmps.getD 0 undef = .pointer (some ⟨g, 0, none⟩) := hfr 0 (by decide)
      have u4 : a.tmps.getD 4 undef = .pointer (some ⟨w.heap.size, 0, none⟩) := hfr 4 (by decide)
      match q, hq with
      | 0, _ =>
        obtain rfl : _ = o := by simpa using ho
        refine FP.fact_value (w' := w') (v := .pointer (some ⟨g, 0, none⟩)) ?_ (Below.refl _ _) ⟨[], rfl, by simp⟩
        simp only [execOp, Act.eval, u0]
        go_simp
      | 1, _ =>
        obtain rfl : _ = o := by simpa using ho
        refine FP.fact_value (w' := w') (v := .pointer (some ⟨g, 0, none⟩)) ?_ (Below.refl _ _) ⟨[], rfl, by simp⟩
        simp only [execOp, Act.eval, u0]
        go_simp
      | 2, _ =>
        obtain rfl : _ = o := by simpa using ho
        obtain ⟨_, h0⟩ : ∃ _ : List Nat, a.tmps.getD 24 undef = .pointer (some ⟨g, 0, none⟩) := hdep 1 (by kernel_rfl)
        refine FP.fact_value (w' := w') (v := .pointer (some ⟨g, 0, none⟩)) ?_ (Below.refl _ _) ⟨[], rfl, by simp⟩
        simp only [execOp, Act.eval, h0]
        go_simp
      | 3, _ =>
        obtain rfl : _ = o := by simpa using ho
        obtain ⟨_, h0⟩ : ∃ _ : List Nat, a.tmps.getD 25 undef = .pointer (some ⟨g, 0, none⟩) := hdep 2 (by kernel_rfl)
        refine FP.fact_value (w' := w') (v := .pointer (some ⟨g, 2, none⟩)) ?_ (Below.refl _ _) ⟨[], rfl, by simp⟩
        simp only [execOp, Act.eval, h0]
        go_simp
      | 4, _ =>
        obtain rfl : _ = o := by simpa using ho
        obtain ⟨_, h0⟩ : ∃ _ : List Nat, a.tmps.getD 26 undef = .pointer (some ⟨g, 2, none⟩) := hdep 3 (by kernel_rfl)
        refine FP.fact_value (w' := w') (v := .slice ao L.length cp) ?_ (Below.refl _ _) ⟨[], rfl, by simp⟩
        simp only [execOp, Act.eval, h0]
        go_simp
      | 5, _ =>
        obtain rfl : _ = o := by simpa using ho
        refine FP.fact_value (w' := w') (v := .agg #[.int .i64 kind, .string text, .int .i64 num, .int .i64 (i : Int), .bool near]) ?_ (Below.refl _ _) ⟨[], rfl, by simp⟩
        simp only [execOp, Act.eval, u4]
        go_simp
      | 6, _ =>
        obtain rfl : _ = o := by simpa using ho
        obtain ⟨_, hv⟩ : ∃ _ : List Nat, a.tmps.getD 28 undef = .agg #[.int .i64 kind, .string text, .int .i64 num, .int .i64 (i : Int), .bool near] := hdep 5 (by kernel_rfl)
        have e9 : (#[((0 : Nat), Operand.tmp 28)].map fun x => (x.1, a.eval x.2)) = #[(0, .agg #[.int .i64 kind, .string text, .int .i64 num, .int .i64 (i : Int), .bool near])] := by simp [Act.eval]; simpa using hv
        refine FP.fact_value (w' := w'.alloc (.cells #[.int .i64 kind, .string text, .int .i64 num, .int .i64 (i : Int), .bool near] 66)) (v := .slice (some ⟨w'.heap.size, 0, none⟩) 1 1) ?_ ((Below.refl _ _).alloc (Nat.le_refl _) _) ⟨[], ⟨w'.heap.size, rfl, heap_alloc_new _ _, hb.size⟩, by simp⟩
        clear hdep hfr ho
        simp only [execOp, e9]
        go_simp
    intro vals S w1 hb hf _
    have v0 : vals 0 = .pointer (some ⟨g, 0, none⟩) := (hf 0 (by omega)).1
    have v4 : vals 4 = .slice ao L.length cp := (hf 4 (by omega)).1
    obtain ⟨g2, v6, hg2, hgl⟩ : ∃ g2, vals 6 = .slice (some ⟨g2, 0, none⟩) 1 1 ∧ w1.heap[g2]? = some (.cells #[.int .i64 kind, .string text, .int .i64 num, .int .i64 (i : Int), .bool near] 66 (0, 0)) ∧ W.heap.size ≤ g2 := (hf 6 (by omega)).1
    simp only [FP.putN, List.getElem?_toArray, List.getElem?_cons_zero, List.getElem?_cons_succ, Option.bind_some, List.drop_succ_cons, List.drop_zero, v0, v4, v6]
    generalize vals 1 = m1
    generalize vals 2 = m2
    generalize vals 3 = m3
    generalize vals 5 = m5
    simp only [Act.put, List.setIfInBounds_toArray, List.set_cons_succ, List.set_cons_zero]
    obtain ⟨Z0, _, Z2⟩ := HK.out w1 hb
    obtain ⟨X0, X1, X2, X3, X4⟩ := b5 hg2
    have HZ0 : Hid (w1.heap[g]? = some (.cells #[.string t, mv, .slice ao L.length cp, .int .i64 (b : Int)] 102 (0, 0))) := Z0
    have HZ2 : Hid (SgRow w1 N L (.slice ao L.length cp)) := Z2
    have HX : Hid (w1.cell? ⟨g2, 0, none⟩ = some (.int .i64 kind) ∧ w1.cell? ⟨g2, 1, none⟩ = some (.string text) ∧ w1.cell? ⟨g2, 2, none⟩ = some (.int .i64 num) ∧ w1.cell? ⟨g2, 3, none⟩ = some (.int .i64 (i : Int)) ∧ w1.cell? ⟨g2, 4, none⟩ = some (.bool near)) := ⟨X0, X1, X2, X3, X4⟩
    have HB1 : Hid (Below w.heap.size w w1) := HBW.out.trans (hb.mono HBW.out.size)
    have hs1 := HB1.out.size
    clear hf v0 v4 v6 hg2 X0 X1 X2 X3 X4 Z0 Z2 hb HK HBW hgl lW
    go_wp2_with (at_builtin; go_loud (refine wpList_append_own_at _ rfl _ _ 62 rfl N 66 i0 (.agg #[.int .i64 0, .string ⟨#[]⟩, .int .i64 0, .int .i64 0, .bool false]) 5 48 Tryz.underlying62 hi hz0 hz1 hz2 rfl (by decide) _ _ _ rfl HZ2.out ⟨g2, 0, none⟩ 1 1 [.int .i64 kind, .string text, .int .i64 num, .int .i64 (i : Int), .bool near] rfl rfl ?c1 ?c2 ?c3 ?c4 ?c5 ?_))
    case c1 =>
      intro q z hq
      match q, hq with
      | 0, hq => simp at hq; subst hq; simpa [Addr.add] using HX.out.1
      | 1, hq => simp at hq; subst hq; simpa [Addr.add] using HX.out.2.1
      | 2, hq => simp at hq; subst hq; simpa [Addr.add] using HX.out.2.2.1
      | 3, hq => simp at hq; subst hq; simpa [Addr.add] using HX.out.2.2.2.1
      | 4, hq => simp at hq; subst hq; simpa [Addr.add] using HX.out.2.2.2.2
    case c2 => intro z hz; simp at hz; rcases hz with rfl | rfl | rfl | rfl | rfl <;> rfl
    case c3 => have := HL.out; unfold maxLen; omega
    case c4 => have := HL.out; omega
    case c5 => omega
    intro v' w2 hown' hgrow _ _
    have hblk : ∀ k, k < N → w2.heap[k]? = w1.heap[k]? := fun k hk => hgrow.block k (by omega) (by
      intro e
      rcases HZ2.out.2 with ⟨e2, _⟩ | ⟨g3, cap, cur, e2, hge, _⟩
      · rw [e2] at e; cases e
      · rw [e2] at e; simp [Value.ownBlock] at e; omega)
    have HFR : Hid (Fr N g w w2) := ⟨hgrow.os.trans HB1.out.os, hgrow.tape.trans HB1.out.tape, hgrow.output.trans HB1.out.output, Nat.le_trans HB1.out.size hgrow.size, fun k hk _ => (hblk k hk).trans (HB1.out.block k (by omega))⟩
    have HO2 : Hid (SgRow w2 N (L ++ [⟨kind, text, num, i, near⟩]) v') := by
      show w2.ownsRow N 66 5 v' (L ++ [_]).length (sgsV (L ++ [_]))
      rw [sgsV_push, List.length_append]
      exact hown'
    have HG2 : Hid (w2.heap[g]? = some (.cells #[.string t, mv, .slice ao L.length cp, .int .i64 (b : Int)] 102 (0, 0))) := (hblk g hgN).trans HZ0.out
    have hs2 := HFR.out.size
    obtain ⟨a2, cp2, hv2, _, _⟩ := HO2.out.shape
    rw [List.length_append, List.length_singleton] at hv2
    subst hv2
    obtain ⟨c0, c1, c2, c3, cf2⟩ := b4 HG2.out
    have f2 := cf2 2
    have f3 := cf2 3
    clear hown' hgrow hblk HZ0 HZ2 HX HB1
    go_wp2
    refine bodyPost_end (results_none rfl _ _ _) rfl ?_
    refine ⟨⟨_, rfl⟩, ⟨.slice a2 (L.length + 1) cp2, ?_, ?_, hgN, ?_⟩, ?_⟩
    · have h1 := set_at (i := 2) HG2.out (.slice a2 (L.length + 1) cp2)
      have h2 := set_at (i := 3) h1 (.int .i64 (e : Int))
      simpa using h2
    · refine HO2.out.turn fun k hk => ?_
      have hkN : N ≤ k := by
        rcases HO2.out.2 with ⟨e2, _⟩ | ⟨g3, cap, cur, e2, hge, _⟩
        · rw [e2] at hk; cases hk
        · rw [e2] at hk; simp [Value.ownBlock] at hk; omega
      rw [set_oth _ (by omega), set_oth _ (by omega)]
    · rw [set_size, set_size]; omega
    · exact HFR.out.trans ⟨rfl, rfl, rfl, by rw [set_size, set_size]; exact Nat.le_refl _, fun k _ hkg => by rw [set_oth _ hkg, set_oth _ hkg]⟩
  · go_upto_region 2 with fail
    obtain ⟨W, hW⟩ : ∃ W, W = w.alloc (.cells #[.int .i64 kind, .string text, .int .i64 num, .int .i64 (i : Int), .bool false] 66) := ⟨_, rfl⟩
    rw [← hW]
    have bW : Below w.heap.size w W := by rw [hW]; exact (Below.refl _ _).alloc (Nat.le_refl _) _
    have lW : W.heap.size = w.heap.size + 1 := by rw [hW]; simp
    have kW : W.heap[w.heap.size]? = some (.cells #[.int .i64 kind, .string text, .int .i64 num, .int .i64 (i : Int), .bool false] 66 (0, 0)) := by rw [hW]; exact heap_alloc_new _ _
    have HK : Hid (∀ w', Below W.heap.size W w' → w'.heap[g]? = some (.cells #[.string t, mv, .slice ao L.length cp, .int .i64 (b : Int)] 102 (0, 0)) ∧ w'.heap[w.heap.size]? = some (.cells #[.int .i64 kind, .string text, .int .i64 num, .int .i64 (i : Int), .bool false] 66 (0, 0)) ∧ SgRow w' N L (.slice ao L.length cp)) := fun w' hb =>
      ⟨(hb.block g (by omega)).trans ((bW.block g hgw).trans HG.out), (hb.block _ (by omega)).trans kW, (HROW.out.keep bW).keep hb⟩
    have HBW : Hid (Below w.heap.size w W) := bW
    clear hW kW bW c0 c1 c2 c3
    refine FP.wp_region_factsP (v1 := .pointer (some ⟨g, 0, none⟩)) 7 (fun q v S w' => match q with
      | 0 => v = .pointer (some ⟨g, 0, none⟩)
      | 1 => v = .pointer (some ⟨g, 0, none⟩)
      | 2 => v = .pointer (some ⟨g, 0, none⟩)
      | 3 => v = .pointer (some ⟨g, 2, none⟩)
      | 4 => v = .slice ao L.length cp
      | 5 => v = .agg #[.int .i64 kind, .string text, .int .i64 num, .int .i64 (i : Int), .bool false]
      | _ => ∃ g2, v = .slice (some ⟨g2, 0, none⟩) 1 1 ∧ w'.heap[g2]? = some (.cells #[.int .i64 kind, .string text, .int .i64 num, .int .i64 (i : Int), .bool false] 66 (0, 0)) ∧ W.heap.size ≤ g2) (by kernel_rfl) (by kernel_rfl) 37 rfl (by kernel_rfl) (by omega) rfl (by kernel_rfl) (by kernel_rfl) (by kernel_rfl) (fun _ d _ _ _ h => by cases d <;> exact h) ?_ (fun _ _ => rfl) ?_ ?_ ?_
    · refine ⟨rfl, fun w => ?_⟩
      go_simp
    · intro q v S w w' hq h hb
      match q, hq, h with
      | 0, _, h => exact h
      | 1, _, h => exact h
      | 2, _, h => exact h
      | 3, _, h => exact h
      | 4, _, h => exact h
      | 5, _, h => exact h
      | 6, _, ⟨g2, h1, h2, h3⟩ => exact ⟨g2, h1, (hb.block g2 (Array.getElem?_eq_some_iff.1 h2).1).trans h2, h3⟩
    · intro q o hq ho a w' hb hfr hdep
      obtain ⟨z0, z1, _⟩ := HK.out w' hb
      obtain ⟨x0, x1, x2, x3, _⟩ := b4 z0
      obtain ⟨y0, y1, y2, y3, y4⟩ := b5 z1
      have u0 : a.tmps.getD 0 undef = .pointer (some ⟨g, 0, none⟩) := hfr 0 (by decide)
      have u4 : a.tmps.getD 4 undef = .pointer (some ⟨w.heap.size, 0, none⟩) := hfr 4 (by decide)
      match q, hq with
      | 0, _ =>
        obtain rfl : _ = o := by simpa using ho
        refine FP.fact_value (w' := w') (v := .pointer (some ⟨g, 0, none⟩)) ?_ (Below.refl _ _) ⟨[], rfl, by simp⟩
        simp only [execOp, Act.eval, u0]
        go_simp
      | 1, _ =>
        obtain rfl : _ = o := by simpa using ho
        refine FP.fact_value (w' := w') (v := .pointer (some ⟨g, 0, none⟩)) ?_ (Below.refl _ _) ⟨[], rfl, by simp⟩
        simp only [execOp, Act.eval, u0]
        go_simp
      | 2, _ =>
        obtain rfl : _ = o := by simpa using ho
        obtain ⟨_, h0⟩ : ∃ _ : List Nat, a.tmps.getD 24 undef = .pointer (some ⟨g, 0, none⟩) := hdep 1 (by kernel_rfl)
        refine FP.fact_value (w' := w') (v := .pointer (some ⟨g, 0, none⟩)) ?_ (Below.refl _ _) ⟨[], rfl, by simp⟩
        simp only [execOp, Act.eval, h0]
        go_simp
      | 3, _ =>
        obtain rfl : _ = o := by simpa using ho
        obtain ⟨_, h0⟩ : ∃ _ : List Nat, a.tmps.getD 25 undef = .pointer (some ⟨g, 0, none⟩) := hdep 2 (by kernel_rfl)
        refine FP.fact_value (w' := w') (v := .pointer (some ⟨g, 2, none⟩)) ?_ (Below.refl _ _) ⟨[], rfl, by simp⟩
        simp only [execOp, Act.eval, h0]
        go_simp
      | 4, _ =>
        obtain rfl : _ = o := by simpa using ho
        obtain ⟨_, h0⟩ : ∃ _ : List Nat, a.tmps.getD 26 undef = .pointer (some ⟨g, 2, none⟩) := hdep 3 (by kernel_rfl)
        refine FP.fact_value (w' := w') (v := .slice ao L.length cp) ?_ (Below.refl _ _) ⟨[], rfl, by simp⟩
        simp only [execOp, Act.eval, h0]
        go_simp
      | 5, _ =>
        obtain rfl : _ = o := by simpa using ho
        refine FP.fact_value (w' := w') (v := .agg #[.int .i64 kind, .string text, .int .i64 num, .int .i64 (i : Int), .bool false]) ?_ (Below.refl _ _) ⟨[], rfl, by simp⟩
        simp only [execOp, Act.eval, u4]
        go_simp
      | 6, _ =>
        obtain rfl : _ = o := by simpa using ho
        obtain ⟨_, hv⟩ : ∃ _ : List Nat, a.tmps.getD 28 undef = .agg #[.int .i64 kind, .string text, .int .i64 num, .int .i64 (i : Int), .bool false] := hdep 5 (by kernel_rfl)
        have e9 : (#[((0 : Nat), Operand.tmp 28)].map fun x => (x.1, a.eval x.2)) = #[(0, .agg #[.int .i64 kind, .string text, .int .i64 num, .int .i64 (i : Int), .bool false])] := by simp [Act.eval]; simpa using hv
        refine FP.fact_value (w' := w'.alloc (.cells #[.int .i64 kind, .string text, .int .i64 num, .int .i64 (i : Int), .bool false] 66)) (v := .slice (some ⟨w'.heap.size, 0, none⟩) 1 1) ?_ ((Below.refl _ _).alloc (Nat.le_refl _) _) ⟨[], ⟨w'.heap.size, rfl, heap_alloc_new _ _, hb.size⟩, by simp⟩
        clear hdep hfr ho
        simp only [execOp, e9]
        go_simp
    intro vals S w1 hb hf _
    have v0 : vals 0 = .pointer (some ⟨g, 0, none⟩) := (hf 0 (by omega)).1
    have v4 : vals 4 = .slice ao L.length cp := (hf 4 (by omega)).1
    obtain ⟨g2, v6, hg2, hgl⟩ : ∃ g2, vals 6 = .slice (some ⟨g2, 0, none⟩) 1 1 ∧ w1.heap[g2]? = some (.cells #[.int .i64 kind, .string text, .int .i64 num, .int .i64 (i : Int), .bool false] 66 (0, 0)) ∧ W.heap.size ≤ g2 := (hf 6 (by omega)).1
    simp only [FP.putN, List.getElem?_toArray, List.getElem?_cons_zero, List.getElem?_cons_succ, Option.bind_some, List.drop_succ_cons, List.drop_zero, v0, v4, v6]
    generalize vals 1 = m1
    generalize vals 2 = m2
    generalize vals 3 = m3
    generalize vals 5 = m5
    simp only [Act.put, List.setIfInBounds_toArray, List.set_cons_succ, List.set_cons_zero]
    obtain ⟨Z0, _, Z2⟩ := HK.out w1 hb
    obtain ⟨X0, X1, X2, X3, X4⟩ := b5 hg2
    have HZ0 : Hid (w1.heap[g]? = some (.cells #[.string t, mv, .slice ao L.length cp, .int .i64 (b : Int)] 102 (0, 0))) := Z0
    have HZ2 : Hid (SgRow w1 N L (.slice ao L.length cp)) := Z2
    have HX : Hid (w1.cell? ⟨g2, 0, none⟩ = some (.int .i64 kind) ∧ w1.cell? ⟨g2, 1, none⟩ = some (.string text) ∧ w1.cell? ⟨g2, 2, none⟩ = some (.int .i64 num) ∧ w1.cell? ⟨g2, 3, none⟩ = some (.int .i64 (i : Int)) ∧ w1.cell? ⟨g2, 4, none⟩ = some (.bool false)) := ⟨X0, X1, X2, X3, X4⟩
    have HB1 : Hid (Below w.heap.size w w1) := HBW.out.trans (hb.mono HBW.out.size)
    have hs1 := HB1.out.size
    clear hf v0 v4 v6 hg2 X0 X1 X2 X3 X4 Z0 Z2 hb HK HBW hgl lW
    go_wp2_with (at_builtin; go_loud (refine wpList_append_own_at _ rfl _ _ 62 rfl N 66 i0 (.agg #[.int .i64 0, .string ⟨#[]⟩, .int .i64 0, .int .i64 0, .bool false]) 5 48 Tryz.underlying62 hi hz0 hz1 hz2 rfl (by decide) _ _ _ rfl HZ2.out ⟨g2, 0, none⟩ 1 1 [.int .i64 kind, .string text, .int .i64 num, .int .i64 (i : Int), .bool false] rfl rfl ?c1 ?c2 ?c3 ?c4 ?c5 ?_))
    case c1 =>
      intro q z hq
      match q, hq with
      | 0, hq => simp at hq; subst hq; simpa [Addr.add] using HX.out.1
      | 1, hq => simp at hq; subst hq; simpa [Addr.add] using HX.out.2.1
      | 2, hq => simp at hq; subst hq; simpa [Addr.add] using HX.out.2.2.1
      | 3, hq => simp at hq; subst hq; simpa [Addr.add] using HX.out.2.2.2.1
      | 4, hq => simp at hq; subst hq; simpa [Addr.add] using HX.out.2.2.2.2
    case c2 => intro z hz; simp at hz; rcases hz with rfl | rfl | rfl | rfl | rfl <;> rfl
    case c3 => have := HL.out; unfold maxLen; omega
    case c4 => have := HL.out; omega
    case c5 => omega
    intro v' w2 hown' hgrow _ _
    have hblk : ∀ k, k < N → w2.heap[k]? = w1.heap[k]? := fun k hk => hgrow.block k (by omega) (by
      intro e
      rcases HZ2.out.2 with ⟨e2, _⟩ | ⟨g3, cap, cur, e2, hge, _⟩
      · rw [e2] at e; cases e
      · rw [e2] at e; simp [Value.ownBlock] at e; omega)
    have HFR : Hid (Fr N g w w2) := ⟨hgrow.os.trans HB1.out.os, hgrow.tape.trans HB1.out.tape, hgrow.output.trans HB1.out.output, Nat.le_trans HB1.out.size hgrow.size, fun k hk _ => (hblk k hk).trans (HB1.out.block k (by omega))⟩
    have HO2 : Hid (SgRow w2 N (L ++ [⟨kind, text, num, i, false⟩]) v') := by
      show w2.ownsRow N 66 5 v' (L ++ [_]).length (sgsV (L ++ [_]))
      rw [sgsV_push, List.length_append]
      exact hown'
    have HG2 : Hid (w2.heap[g]? = some (.cells #[.string t, mv, .slice ao L.length cp, .int .i64 (b : Int)] 102 (0, 0))) := (hblk g hgN).trans HZ0.out
    have hs2 := HFR.out.size
    obtain ⟨a2, cp2, hv2, _, _⟩ := HO2.out.shape
    rw [List.length_append, List.length_singleton] at hv2
    subst hv2
    obtain ⟨c0, c1, c2, c3, cf2⟩ := b4 HG2.out
    have f2 := cf2 2
    have f3 := cf2 3
    clear hown' hgrow hblk HZ0 HZ2 HX HB1
    go_wp2
    refine bodyPost_end (results_none rfl _ _ _) rfl ?_
    refine ⟨⟨_, rfl⟩, ⟨.slice a2 (L.length + 1) cp2, ?_, ?_, hgN, ?_⟩, ?_⟩
    · have h1 := set_at (i := 2) HG2.out (.slice a2 (L.length + 1) cp2)
      have h2 := set_at (i := 3) h1 (.int .i64 (e : Int))
      simpa using h2
    · refine HO2.out.turn fun k hk => ?_
      have hkN : N ≤ k := by
        rcases HO2.out.2 with ⟨e2, _⟩ | ⟨g3, cap, cur, e2, hge, _⟩
        · rw [e2] at hk; cases hk
        · rw [e2] at hk; simp [Value.ownBlock] at hk; omega
      rw [set_oth _ (by omega), set_oth _ (by omega)]
    · rw [set_size, set_size]; omega
    · exact HFR.out.trans ⟨rfl, rfl, rfl, by rw [set_size, set_size]; exact Nat.le_refl _, fun k _ hkg => by rw [set_oth _ hkg, set_oth _ hkg]⟩
end Go.Proofs.YtenmhpalpfppmaoGreatDoor

/- Runes of a text: where one ends. Plain. -/
namespace Go.Proofs.YtenmhpalpfppmaoGreatDoor
open Go.RowKit

theorem get8 (t : ByteArray) (i : Nat) : t.get! i = at8 t i := by
  unfold at8
  simp only [ByteArray.get!, List.getD_eq_getElem?_getD, Array.getElem?_toList]
  rw [getElem!_def]
  cases t.data[i]? <;> rfl
theorem ext_list (t : ByteArray) (i : Nat) : (t.extract i t.size).data.toList = t.data.toList.drop i := by
  have h1 : (t.extract i t.size).data = t.data.extract i t.size := by simp
  rw [h1, Array.toList_extract]
  show List.take (t.size - i) (List.drop i t.data.toList) = _
  exact List.take_of_length_le (by simp)
theorem get_shift (t : ByteArray) (i k : Nat) : (t.extract i t.size).get! k = t.get! (i + k) := by
  rw [get8, get8]; unfold at8
  rw [ext_list]
  simp [List.getD_eq_getElem?_getD]
theorem ext_size (t : ByteArray) (i : Nat) : (t.extract i t.size).size = t.size - i := by
  rw [ByteArray.size_extract]; omega

theorem decode_shift (t : ByteArray) (i : Nat) : Utf8.decode (t.extract i t.size) 0 = Utf8.decode t i := by
  have hc : ∀ k, decide (k < (t.extract i t.size).size) = decide (i + k < t.size) := fun k => by
    rw [ext_size]; by_cases h : i + k < t.size
    · rw [decide_eq_true h, decide_eq_true (by omega)]
    · rw [decide_eq_false h, decide_eq_false (by omega)]
  unfold Utf8.decode
  simp only [get_shift, Nat.zero_add, hc]

theorem decode_end (t : ByteArray) (i : Nat) (h : i < t.size) : 1 ≤ (Utf8.decode t i).2 ∧ i + (Utf8.decode t i).2 ≤ t.size ∧ (Utf8.decode t i).2 ≤ 4 ∧ ∀ k, 0 < k → k < (Utf8.decode t i).2 → 128 ≤ (at8 t (i + k)).toNat := by
  have hg : ∀ k, (t.get! (i + k)).toNat = (at8 t (i + k)).toNat := fun k => by rw [get8]
  unfold Utf8.decode
  simp only [hg, Bool.and_eq_true, decide_eq_true_eq, beq_iff_eq]
  repeat' split
  all_goals refine ⟨by simp, ?_, by simp, ?_⟩
  all_goals first
    | (simp; omega)
    | (intro k h1 h2; simp at h2; omega)
    | (intro k h1 h2
       have : k = 1 ∨ k = 2 ∨ k = 3 := by simp at h2; omega
       rcases this with rfl | rfl | rfl <;> simp at h2 <;> omega)

theorem decodeGo_at (t : ByteArray) (i : Nat) (h : i < t.size) : Lib.decodeGo (t.extract i t.size) = Utf8.decode t i := by
  unfold Lib.decodeGo
  rw [if_neg (by rw [ext_size]; omega), decode_shift]

theorem index_run (t : ByteArray) (c : UInt8) (p : UInt8 → Bool) (hp : ∀ x, p x = !(x == c)) : ∀ (n i : Nat), t.size - i ≤ n → Lib.indexByte (t.data.toList.drop i) c = if i + run t p i < t.size then (run t p i : Int) else -1 := by
  intro n
  induction n with
  | zero =>
    intro i hn
    rw [drop_end t i (by omega), if_neg (by omega)]; rfl
  | succ n ih =>
    intro i hn
    by_cases hi : i < t.size
    · rw [drop_at t i hi]
      unfold Lib.indexByte
      by_cases hc : (t[i] == c) = true
      · have hp0 : p t[i] = false := by rw [hp, hc]; rfl
        rw [if_pos hc, run_no hi hp0, if_pos (by omega)]; rfl
      · have hp1 : p t[i] = true := by rw [hp]; simpa using hc
        rw [if_neg hc, ih (i + 1) (by omega), run_yes hi hp1]
        by_cases hl : i + 1 + run t p (i + 1) < t.size
        · rw [if_pos hl, if_neg (by simp), if_pos (by omega)]; rfl
        · rw [if_neg hl, if_pos (by rfl), if_neg (by omega)]
    · rw [drop_end t i hi, if_neg (by rw [run_end hi]; omega)]; rfl
end Go.Proofs.YtenmhpalpfppmaoGreatDoor
