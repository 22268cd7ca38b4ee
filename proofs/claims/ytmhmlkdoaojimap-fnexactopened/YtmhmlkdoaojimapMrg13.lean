/- Four texts in one. -/
import Derived.WalkKit
import Derived.StillTail
import Derived.Test.YtmhmlkdoaojimapMrg12
import Derived.Deep.RegionWith
import Derived.Deep.DeepCutAuto
import Derived.Test.YtmhmlkdoaojimapMrg2
import Derived.Test.YtmhmlkdoaojimapRows
import Derived.Test.YtmhmlkdoaojimapMrg4
import Derived.Laws.AppendOwn
import Derived.ProofKit
/- A region that draws its order and makes memory: each of its first operations is shown once, over all worlds that are as the first one was below its end, with what it leaves behind for the others; what is so stays so; then the rest of the region in its own order. -/
namespace Go.Proofs.Ytmhmlkdoaojimap
open Go.RowKit

def dstOf (ops : Array Oper) (i : Nat) : Nat := ((ops[i]?).bind (·.dst)).getD 0

def firstN (m n : Nat) : Array Bool := Array.ofFn (n := m) fun i => decide (i.val < n)

/-- the look at a region's text -/
def factsB (ops : Array Oper) (n : Nat) : Bool :=
  decide (n < ops.size) && Region.sinkB .any ops n && Region.chainB .any ops n && Region.seqB .any ops (ops.size - n) n (firstN ops.size n) &&
  (List.range n).all (fun i => match ops[i]? with | some o => o.guard.isNone && o.dst.isSome && o.after.all (fun e => !Region.binds .any e || decide (e.on < i)) && ((List.range i).all fun j => dstOf ops j != dstOf ops i) | none => false)

structure FrameAt (ops : Array Oper) (n : Nat) (a0 a : Act) : Prop where
  size : a.tmps.size = a0.tmps.size
  defers : a.defers = a0.defers
  same : ∀ s, (∀ i, i < n → dstOf ops i ≠ s) → a.tmps.getD s undef = a0.tmps.getD s undef

def putN (ops : Array Oper) (a0 : Act) (vals : Nat → Value) : Nat → Act
  | 0 => a0
  | k + 1 => (putN ops a0 vals k).put ((ops[k]?).bind (·.dst)) (vals k)

section
variable {P : Program} {ops : Array Oper} {Q : Exit → Act → World → Prop} {n : Nat}

theorem put_getD {a : Act} {d s : Nat} {v : Value} (hd : d < a.tmps.size) : (a.put (some d) v).tmps.getD s undef = if d = s then v else a.tmps.getD s undef := by
  unfold Act.put
  by_cases h : d = s
  · subst h; simp [hd]
  · simp [h, Array.getElem?_setIfInBounds_ne h]
theorem put_size {a : Act} {d : Nat} {v : Value} : (a.put (some d) v).tmps.size = a.tmps.size := by unfold Act.put; simp
theorem put_defers {a : Act} {d : Nat} {v : Value} : (a.put (some d) v).defers = a.defers := by unfold Act.put; rfl

structure FactsOk (ops : Array Oper) (n : Nat) : Prop where
  lt : n < ops.size
  sink : Region.sinkB .any ops n = true
  chain : Region.chainB .any ops n = true
  seq : Region.seqB .any ops (ops.size - n) n (firstN ops.size n) = true
  ops : ∀ i, i < n → ∃ o d, ops[i]? = some o ∧ o.guard = none ∧ o.dst = some d ∧ dstOf ops i = d ∧ (∀ e ∈ o.after, Region.binds .any e = true → e.on < i) ∧ ∀ j, j < i → dstOf ops j ≠ d

theorem factsOk_of (h : factsB ops n = true) : FactsOk ops n := by
  unfold factsB at h
  simp only [Bool.and_eq_true, decide_eq_true_eq] at h
  obtain ⟨⟨⟨⟨h1, h2⟩, h3⟩, h4⟩, h5⟩ := h
  refine ⟨h1, h2, h3, h4, fun i hi => ?_⟩
  have h6 := List.all_eq_true.1 h5 i (by simpa using hi)
  cases ho : ops[i]? with
  | none => rw [ho] at h6; cases h6
  | some o =>
    rw [ho] at h6
    simp only [Bool.and_eq_true] at h6
    obtain ⟨⟨⟨h7, h8⟩, h9⟩, h10⟩ := h6
    obtain ⟨d, hd⟩ := Option.isSome_iff_exists.1 h8
    have hdd : dstOf ops i = d := by unfold dstOf; rw [ho]; simp [hd]
    refine ⟨o, d, rfl, by simpa using h7, hd, hdd, fun e he hb => ?_, fun j hj => ?_⟩
    · obtain ⟨q, hq, rfl⟩ := Array.mem_iff_getElem.1 he
      have := Array.all_eq_true.1 h9 q hq
      rw [hb] at this
      simpa using this
    · have := List.all_eq_true.1 h10 j (by simpa using hj)
      rw [hdd] at this
      simpa using this

theorem putN_at (hf : FactsOk ops n) {a0 : Act} (hsz : ∀ i, i < n → dstOf ops i < a0.tmps.size) (vals : Nat → Value) : ∀ k, k ≤ n →
    (putN ops a0 vals k).tmps.size = a0.tmps.size ∧ (putN ops a0 vals k).defers = a0.defers ∧ (∀ i, i < k → (putN ops a0 vals k).tmps.getD (dstOf ops i) undef = vals i) ∧ ∀ s, (∀ i, i < k → dstOf ops i ≠ s) → (putN ops a0 vals k).tmps.getD s undef = a0.tmps.getD s undef
  | 0, _ => ⟨rfl, rfl, fun i hi => absurd hi (Nat.not_lt_zero _), fun _ _ => rfl⟩
  | k + 1, hk => by
    obtain ⟨h1, h2, h3, h4⟩ := putN_at hf hsz vals k (by omega)
    obtain ⟨o, d, ho, _, hd, hdd, _, hne⟩ := hf.ops k (by omega)
    have hlt := hsz k (by omega)
    rw [hdd] at hlt
    have e : putN ops a0 vals (k + 1) = (putN ops a0 vals k).put (some d) (vals k) := by
      show (putN ops a0 vals k).put ((ops[k]?).bind (·.dst)) (vals k) = _
      rw [ho]; simp [hd]
    rw [e]
    refine ⟨by rw [put_size]; exact h1, by rw [put_defers]; exact h2, fun i hi => ?_, fun s hs => ?_⟩
    · rw [put_getD (by omega)]
      by_cases hik : i = k
      · subst hik; rw [if_pos hdd.symm]
      · rw [if_neg (fun e => hne i (by omega) e.symm)]
        exact h3 i (by omega)
    · rw [put_getD (by omega), if_neg (fun e => hs k (by omega) (by rw [hdd]; exact e))]
      exact h4 s fun i hi => hs i (by omega)

theorem frame_putN (hf : FactsOk ops n) {a0 a : Act} (hsz : ∀ i, i < n → dstOf ops i < a0.tmps.size) (h : FrameAt ops n a0 a) : a = putN ops a0 (fun i => a.tmps.getD (dstOf ops i) undef) n := by
  obtain ⟨h1, h2, h3, h4⟩ := putN_at hf hsz (fun i => a.tmps.getD (dstOf ops i) undef) n (Nat.le_refl _)
  generalize putN ops a0 (fun i => a.tmps.getD (dstOf ops i) undef) n = b at *
  have hg : ∀ s, a.tmps.getD s undef = b.tmps.getD s undef := fun s => by
    by_cases hs : ∃ i, i < n ∧ dstOf ops i = s
    · obtain ⟨i, hi, rfl⟩ := hs
      exact (h3 i hi).symm
    · have hs' : ∀ i, i < n → dstOf ops i ≠ s := fun i hi e => hs ⟨i, hi, e⟩
      rw [h.same s hs', h4 s hs']
  obtain ⟨at', ad⟩ := a
  obtain ⟨bt, bd⟩ := b
  have e2 : ad = bd := h.defers.trans h2.symm
  have e1 : at' = bt := by
    apply Array.ext
    · exact h.size.trans h1.symm
    · intro i hi1 hi2
      have := hg i
      simpa [Array.getD, hi1, hi2] using this
  subst e1 e2
  rfl

/-- what stands when the operations that are listed have come up -/
structure FInv (ops : Array Oper) (n : Nat) (φ : Nat → Value → List Nat → World → Prop) (a0 : Act) (w0 : World) (S : Nat → List Nat) (listed : Array Bool) (a : Act) (w : World) : Prop where
  head : HeadInv .any ops n listed
  later : Below w0.heap.size w0 w
  frame : FrameAt ops n a0 a
  facts : ∀ i, i < n → listed.getD i false = true → φ i (a.tmps.getD (dstOf ops i) undef) (S i) w ∧ ∀ f ∈ S i, w0.heap.size ≤ f ∧ f < w.heap.size
  apart : ∀ i j, i < n → j < n → listed.getD i false = true → listed.getD j false = true → i ≠ j → ∀ f ∈ S i, f ∉ S j

theorem count_set {listed : Array Bool} {i : Nat} (h : listed.getD i true = false) : (listed.setIfInBounds i true).count true = listed.count true + 1 := by
  have hlt : i < listed.size := by
    rcases Nat.lt_or_ge i listed.size with h' | h'
    · exact h'
    · simp [Array.getElem?_eq_none h'] at h
  have hf : listed[i] = false := by simpa [hlt] using h
  rw [Array.setIfInBounds, dif_pos hlt, Array.count_set hlt]
  simp [hf]

theorem facts_any {φ : Nat → Value → List Nat → World → Prop} {a0 : Act} {w0 : World} (hf : FactsOk ops n) (hsz : ∀ i, i < n → dstOf ops i < a0.tmps.size)
    (stab : ∀ i v S w w', i < n → φ i v S w → Below w.heap.size w w' → φ i v S w')
    (hop : ∀ i o, i < n → ops[i]? = some o → ∀ a w, Below w0.heap.size w0 w → FrameAt ops n a0 a → (∀ e ∈ o.after, Region.binds .any e = true → ∃ S, φ e.on (a.tmps.getD (dstOf ops e.on) undef) S w) → o.wp P a w (fun a' w' => ∃ v, a' = a.put o.dst v ∧ Below w.heap.size w w' ∧ ∃ S, φ i v S w' ∧ ∀ f ∈ S, w.heap.size ≤ f ∧ f < w'.heap.size) Q)
    (l : List Oper) (hl : ops = l.toArray)
    (hend : ∀ (vals : Nat → Value) (S : Nat → List Nat) w, Below w0.heap.size w0 w → (∀ i, i < n → φ i (vals i) (S i) w ∧ ∀ f ∈ S i, w0.heap.size ≤ f ∧ f < w.heap.size) → (∀ i j, i < n → j < n → i ≠ j → ∀ f ∈ S i, f ∉ S j) → wpList P ops Q (l.drop n) (putN ops a0 vals n) w) :
    ∀ (f : Nat) (S : Nat → List Nat) (listed : Array Bool) (a : Act) (w : World), FInv ops n φ a0 w0 S listed a w → listed.count true + f = n → wpAny P .any ops Q (f + (ops.size - n)) listed a w
  | 0, S, listed, a, w, h, hc => by
    have hlen : (l.drop n).length = ops.size - n := by rw [hl]; simp
    have hall : ∀ i, i < n → listed.getD i false = true := by
      intro i hi
      cases hq : listed.getD i false with
      | true => rfl
      | false =>
        exfalso
        have hlt : i < listed.size := by rw [h.head.size]; have := hf.lt; omega
        have h1 := count_set (getD_in hlt hq)
        have h2 : (listed.setIfInBounds i true).count true ≤ n := by
          have h3 : ∀ t, n ≤ t → t < ops.size → (listed.setIfInBounds i true).getD t true = false := fun t ht ht' => by rw [getD_set_ne true (by omega)]; exact h.head.tail t ht ht'
          have hsz2 : (listed.setIfInBounds i true).size = ops.size := by simp [h.head.size]
          generalize listed.setIfInBounds i true = L at *
          have e : L.toList = L.toList.take n ++ L.toList.drop n := (List.take_append_drop n _).symm
          rw [← Array.count_toList, e, List.count_append]
          have z : (L.toList.drop n).count true = 0 := by
            rw [List.count_eq_zero]
            intro hm
            obtain ⟨q, hq1, hq2⟩ := List.getElem_of_mem hm
            rw [List.length_drop, Array.length_toList] at hq1
            rw [List.getElem_drop] at hq2
            have := h3 (n + q) (by omega) (by omega)
            have hlt2 : n + q < L.size := by omega
            simp [hlt2] at this
            simp at hq2
            rw [hq2] at this
            cases this
          have z2 := List.count_le_length (a := true) (l := L.toList.take n)
          rw [List.length_take] at z2
          omega
        omega
    have hlst : listed = firstN ops.size n := by
      apply Array.ext
      · rw [h.head.size]; simp [firstN]
      · intro i h1 h2
        simp only [firstN, Array.getElem_ofFn]
        by_cases hi : i < n
        · have := hall i hi
          simpa [h1, hi] using this
        · have := h.head.tail i (by omega) (by rw [← h.head.size]; exact h1)
          simpa [h1, hi] using this
    have hw : wpList P ops Q (l.drop n) a w := by
      rw [frame_putN hf hsz h.frame]
      exact hend _ S w h.later (fun i hi => h.facts i hi (hall i hi)) fun i j hi hj hne => h.apart i j hi hj (hall i hi) (hall j hj) hne
    have := wpAny_of_seq (md := .any) (Q' := Q) (l.drop n) n listed a w (fun j => by rw [hl]; simp [List.getElem?_drop]) (by rw [hlen, hlst]; exact hf.seq) hw
    rw [hlen] at this
    rw [Nat.zero_add]
    exact this
  | f + 1, S, listed, a, w, h, hc => by
    rw [show f + 1 + (ops.size - n) = (f + (ops.size - n)) + 1 by omega]
    -- the first that has not come up
    obtain ⟨i, hin, hiu⟩ : ∃ i, i < n ∧ listed.getD i true = false := by
      refine Classical.byContradiction fun hno => ?_
      have hall : ∀ i, i < n → listed.getD i false = true := fun i hi => by
        cases hq : listed.getD i false with
        | true => rfl
        | false => exact absurd ⟨i, hi, getD_in (by rw [h.head.size]; have := hf.lt; omega) hq⟩ hno
      have : n ≤ listed.count true := by
        have e : listed.toList = listed.toList.take n ++ listed.toList.drop n := (List.take_append_drop n _).symm
        rw [← Array.count_toList, e, List.count_append]
        have z : (listed.toList.take n).count true = (listed.toList.take n).length := by
          rw [List.count_eq_length]
          intro b hb
          obtain ⟨q, hq1, hq2⟩ := List.getElem_of_mem hb
          rw [List.length_take, Array.length_toList] at hq1
          rw [List.getElem_take] at hq2
          have := hall q (by omega)
          have hlt2 : q < listed.size := by omega
          simp [hlt2] at this
          simp at hq2
          rw [← hq2, this]
        rw [z, List.length_take, Array.length_toList, h.head.size]
        have := hf.lt
        omega
      omega
    have hleast : ∃ i, i < n ∧ listed.getD i true = false ∧ ∀ j, j < i → listed.getD j false = true := by
      induction i using Nat.strongRecOn with
      | ind i ih =>
        by_cases hj : ∃ j, j < i ∧ listed.getD j false = false
        · obtain ⟨j, hj1, hj2⟩ := hj
          exact ih j hj1 (by omega) (getD_in (by rw [h.head.size]; have := hf.lt; omega) hj2)
        · refine ⟨i, hin, hiu, fun j hji => ?_⟩
          cases hq : listed.getD j false with
          | true => rfl
          | false => exact absurd ⟨j, hji, hq⟩ hj
    obtain ⟨i0, h01, h02, h03⟩ := hleast
    obtain ⟨o0, d0, ho0, _, _, _, haf0, _⟩ := hf.ops i0 h01
    have hr0 : i0 ∈ Region.ready .any ops listed := mem_ready.2 ⟨h02, o0, ho0, fun e he hb => h03 e.on (haf0 e he hb)⟩
    refine ⟨fun hn => (by rw [hn] at hr0; cases hr0), fun j hj => ?_⟩
    have hjn : j < n := Nat.lt_of_not_le fun hh => tail_waits hf.sink hf.chain hf.lt h.head _ i0 rfl h01 h02 j hh hj
    obtain ⟨hju, oj', hoj', hjall⟩ := mem_ready.1 hj
    obtain ⟨oj, d, hoj, hg, hd, hdd, haf, _⟩ := hf.ops j hjn
    obtain rfl : oj' = oj := Option.some.inj (hoj'.symm.trans hoj)
    have hstep := hop j oj' hjn hoj a w h.later h.frame (fun e he hb => ⟨_, (h.facts e.on (Nat.lt_trans (haf e he hb) hjn) (hjall e he hb)).1⟩)
    unfold wpOp
    rw [hoj]
    simp only [Region.wanted, hg, if_true]
    refine Or.inl (Oper.wp_mono ?_ hstep)
    rintro a' w' ⟨v, rfl, hb, Sj, hφ, hSj⟩
    rw [hd]
    have hdlt : d < a.tmps.size := by rw [h.frame.size, ← hdd]; exact hsz j hjn
    have hls : ∀ k, j ≠ k → (listed.setIfInBounds j true).getD k false = true → listed.getD k false = true := fun k hk hl => by rwa [getD_set_ne false hk] at hl
    refine facts_any hf hsz stab hop l hl hend f (fun k => if k = j then Sj else S k) _ _ _ ⟨h.head.set hj hjn, h.later.trans (hb.mono h.later.size), ⟨by rw [put_size]; exact h.frame.size, by rw [put_defers]; exact h.frame.defers, fun s hs => ?_⟩, fun k hk hkl => ?_, fun k1 k2 h1 h2 hl1 hl2 hne f' hf1 hf2 => ?_⟩ (by rw [count_set hju]; omega)
    · rw [put_getD hdlt, if_neg (fun e => hs j hjn (by rw [hdd]; exact e))]
      exact h.frame.same s hs
    · by_cases hjk : j = k
      · subst hjk
        rw [put_getD hdlt, if_pos hdd.symm, if_pos rfl]
        exact ⟨hφ, fun f' hf' => ⟨Nat.le_trans h.later.size (hSj f' hf').1, (hSj f' hf').2⟩⟩
      · have hne : d ≠ dstOf ops k := by
          rcases Nat.lt_or_gt_of_ne hjk with hlt | hgt
          · obtain ⟨_, dk, _, _, _, hdk, _, hne⟩ := hf.ops k hk
            intro e
            exact hne j hlt (by rw [hdd, e, hdk])
          · obtain ⟨_, dj, _, _, hdj, hdj2, _, hne⟩ := hf.ops j hjn
            intro e
            exact hne k hgt (by rw [← e, ← hdd, hdj2])
        rw [put_getD hdlt, if_neg hne, if_neg (Ne.symm hjk)]
        obtain ⟨q1, q2⟩ := h.facts k hk (hls k hjk hkl)
        exact ⟨stab k _ _ _ _ hk q1 hb, fun f' hf' => ⟨(q2 f' hf').1, Nat.lt_of_lt_of_le (q2 f' hf').2 hb.size⟩⟩
    · by_cases e1 : k1 = j
      · rw [if_pos e1] at hf1
        rw [if_neg (fun e2 => hne (e1.trans e2.symm))] at hf2
        have := ((h.facts k2 h2 (hls k2 (fun e => hne (e1.trans e)) hl2)).2 f' hf2).2
        have := (hSj f' hf1).1
        omega
      · rw [if_neg e1] at hf1
        have hk1 := hls k1 (Ne.symm e1) hl1
        by_cases e2 : k2 = j
        · rw [if_pos e2] at hf2
          have := ((h.facts k1 h1 hk1).2 f' hf1).2
          have := (hSj f' hf2).1
          omega
        · rw [if_neg e2] at hf2
          exact h.apart k1 k2 h1 h2 hk1 (hls k2 (Ne.symm e2) hl2) hne f' hf1 hf2
end

/-- an operation waits for another one -/
def waitsOn (o : Oper) (j : Nat) : Bool := o.after.any fun e => Region.binds .any e && e.on == j

theorem wp_region_facts {P : Program} {Q : Exit → Act → World → Prop} {id : Nat} {a0 : Act} {w : World} {l : List Oper} (n : Nat) (φ : Nat → Value → List Nat → World → Prop) (hm : P.follows .mixedOrders = true) (hB : factsB l.toArray n = true)
    (N : Nat) (hN : a0.tmps.size = N) (hD : ((List.range n).all fun i => decide (dstOf l.toArray i < N)) = true)
    (stab : ∀ i v S w w', i < n → φ i v S w → Below w.heap.size w w' → φ i v S w')
    (hop : ∀ i o, i < n → l[i]? = some o → ∀ a w', Below w.heap.size w w' → (∀ s, (∀ i, i < n → dstOf l.toArray i ≠ s) → a.tmps.getD s undef = a0.tmps.getD s undef) → (∀ j, waitsOn o j = true → ∃ S, φ j (a.tmps.getD (dstOf l.toArray j) undef) S w') → o.wp P a w' (fun a' w'' => ∃ v, a' = a.put o.dst v ∧ Below w'.heap.size w' w'' ∧ ∃ S, φ i v S w'' ∧ ∀ f ∈ S, w'.heap.size ≤ f ∧ f < w''.heap.size) Q)
    (hend : ∀ (vals : Nat → Value) (S : Nat → List Nat) w', Below w.heap.size w w' → (∀ i, i < n → φ i (vals i) (S i) w' ∧ ∀ f ∈ S i, w.heap.size ≤ f ∧ f < w'.heap.size) → (∀ i j, i < n → j < n → i ≠ j → ∀ f ∈ S i, f ∉ S j) → wpList P l.toArray Q (l.drop n) (putN l.toArray a0 vals n) w') : (Code.region id l.toArray true).wp P Q a0 w := by
  have hf := factsOk_of hB
  have hsz : ∀ i, i < n → dstOf l.toArray i < a0.tmps.size := fun i hi => by
    have := List.all_eq_true.1 hD i (by simpa using hi)
    rw [hN]; simpa using this
  have hd : Below w.heap.size w w.drew := (Below.refl w.heap.size w).drew
  refine wp_region_any hm ?_
  have inv0 : HeadInv .any l.toArray n (Array.replicate l.toArray.size false) :=
    ⟨by simp, fun j oj _ hl => (by rw [getD_replicate_false] at hl; cases hl), fun t _ ht => getD_in (by simpa using ht) (getD_replicate_false _ _)⟩
  have := facts_any (P := P) (Q := Q) (φ := φ) (w0 := w) hf hsz stab (fun i o hi ho a w' hb hfr hdep => hop i o hi (by simpa using ho) a w' hb hfr.same fun j hj => by
    unfold waitsOn at hj
    obtain ⟨q, hq, he⟩ := Array.any_eq_true.1 hj
    simp only [Bool.and_eq_true, beq_iff_eq] at he
    rw [← he.2]
    exact hdep _ (Array.getElem_mem hq) he.1) l rfl hend n (fun _ => []) (Array.replicate l.toArray.size false) a0 w.drew ⟨inv0, hd, ⟨rfl, rfl, fun _ _ => rfl⟩, fun i _ hl => (by rw [getD_replicate_false] at hl; cases hl), fun i j _ _ hl => (by rw [getD_replicate_false] at hl; cases hl)⟩ (by simp [Array.count_replicate])
  rw [show n + (l.toArray.size - n) = l.toArray.size by have := hf.lt; omega] at this
  exact this

theorem fact_enter {P : Program} {o : Oper} {a : Act} {w : World} {φ : Value → World → Prop} {Q : Exit → Act → World → Prop} {f : FuncId} {args : Array Value} (h : (execOp a.eval o).run P w = .ok (.enter f args) w) (hc : Calls P f args w fun e w' => ∃ v, e = .returned v ∧ Below w.heap.size w w' ∧ φ v w') : o.wp P a w (fun a' w' => ∃ v, a' = a.put o.dst v ∧ Below w.heap.size w w' ∧ φ v w') Q := by
  unfold Oper.wp
  rw [h]
  simp only [Oper.upon]
  exact hc.mono (by rintro e w' ⟨v, rfl, hk⟩; exact ⟨v, rfl, hk⟩)
theorem fact_call {P : Program} {o : Oper} {a : Act} {w : World} {φ : Value → World → Prop} {Q : Exit → Act → World → Prop} {f : FuncId} {fn : Func} {xs : Array Operand} {ats : Array TypeId} {args : Array Value} (hop : o.op = .call { callee := .value (.func f), args := xs, argTypes := ats }) (hf : P.funcs[f]? = some fn) (hname : (fn.name == "runtime.NumGoroutine") = false) (hb : fn.body.isSome = true)
    (hargs : xs.map a.eval = args) (hc : Calls P f args w fun e w' => ∃ v, e = .returned v ∧ Below w.heap.size w w' ∧ φ v w') : o.wp P a w (fun a' w' => ∃ v, a' = a.put o.dst v ∧ Below w.heap.size w w' ∧ φ v w') Q := by
  obtain ⟨c, hb⟩ := Option.isSome_iff_exists.1 hb
  have h1 : fn.name ≠ "runtime.NumGoroutine" := by simpa using hname
  have ef : a.eval (.func f) = .func (.func f) #[] #[] := rfl
  refine fact_enter ?_ hc
  unfold execOp
  simp [hop, resolve, Deferred.ofValue, invoke, ef, hargs, callFunc, hf, h1, hb]
theorem fact_value {P : Program} {o : Oper} {a : Act} {w w' : World} {φ : Value → World → Prop} {Q : Exit → Act → World → Prop} {v : Value} (h : (execOp a.eval o).run P w = .ok (.value v) w') (hb : Below w.heap.size w w') (hk : φ v w') : o.wp P a w (fun a' w' => ∃ v, a' = a.put o.dst v ∧ Below w.heap.size w w' ∧ φ v w') Q := by
  unfold Oper.wp
  rw [h]
  exact ⟨v, rfl, hb, hk⟩
end Go.Proofs.Ytmhmlkdoaojimap

/- spec.l08Copy: the cells of the clauses, and the names, in rows of their own. -/
namespace Go.Proofs.Ytmhmlkdoaojimap
open Go.RowKit

set_option maxHeartbeats 4000000 in
set_option maxRecDepth 20000 in
theorem l08_copy (cs : List Cla) (xs : List ByteArray) (w : World) (ao : Option Addr) (cap : Nat) (news : List Value) (c1 : Value) (hcap : cs.length ≤ cap) (hn : news.length = cs.length * 9) (hcell : cs ≠ [] → ∃ b off, ao = some ⟨b, off, none⟩ ∧ ∀ j z, news[j]? = some z → w.cell? ⟨b, off + j, none⟩ = some z) (hx : SsIn w xs c1) (hl1 : cs.length ≤ 1048576) (hl2 : xs.length ≤ 1048576) :
    Calls Try.prog 27 #[.agg #[.slice ao cs.length cap, c1]] w fun e w' => ∃ g k g' k', e = .returned (.agg #[.slice (some ⟨g, 0, none⟩) cs.length k, .slice (some ⟨g', 0, none⟩) xs.length k']) ∧
      w'.ownsRow w.heap.size 56 9 (.slice (some ⟨g, 0, none⟩) cs.length k) cs.length news ∧ w'.ownsRow w.heap.size 9 1 (.slice (some ⟨g', 0, none⟩) xs.length k') xs.length (xs.map Value.string) ∧ Below w.heap.size w w' := by
  obtain ⟨W, hW⟩ : ∃ W, W = (w.alloc (.cells #[.slice ao cs.length cap, c1] 29)).alloc (.cells #[.slice none 0 0, .slice none 0 0] 29) := ⟨_, rfl⟩
  have bW : Below w.heap.size w W := by rw [hW]; exact ((Below.refl _ _).alloc (Nat.le_refl _) _).alloc (by simp) _
  have lW : W.heap.size = w.heap.size + 2 := by rw [hW]; simp
  have q1 : W.heap[w.heap.size]? = some (.cells #[.slice ao cs.length cap, c1] 29 (0, 0)) := by rw [hW]; exact (alloc_old _ _ (by simp)).trans (alloc_at _ _ rfl)
  have q2 : W.heap[w.heap.size + 1]? = some (.cells #[.slice none 0 0, .slice none 0 0] 29 (0, 0)) := by rw [hW]; exact alloc_at _ _ (by simp)
  have HX : Hid (SsIn w xs c1) := hx
  obtain ⟨a2, p2, rfl, -⟩ := hx
  have HV : Hid (news.length = cs.length * 9 ∧ cs.length ≤ cap ∧ (cs ≠ [] → ∃ b off, ao = some ⟨b, off, none⟩ ∧ ∀ j z, news[j]? = some z → w.cell? ⟨b, off + j, none⟩ = some z) ∧ cs.length ≤ 1048576 ∧ xs.length ≤ 1048576) := ⟨hn, hcap, hcell, hl1, hl2⟩
  have HBW : Hid (Below w.heap.size w W) := bW
  obtain ⟨p, hp⟩ : ∃ p, p = w.heap.size := ⟨_, rfl⟩
  rw [← hp] at q1 q2 lW
  have HQ : Hid (W.heap[p]? = _ ∧ W.heap[p + 1]? = _) := ⟨q1, q2⟩
  have HPP : Hid (p = w.heap.size ∧ W.heap.size = p + 2) := ⟨hp, lW⟩
  clear hl1 hl2 bW lW q1 q2 hn hcell hcap
  go_enter Try.func27, Try.ntmps27
  go_upto_region 1 with fail
  rw [← hW, ← hp]
  clear hW hp
  refine wp_region_facts 8 (fun i v _ u => match i with
    | 0 => ∃ g, v = .slice (some ⟨g, 0, none⟩) 0 0 ∧ u.heap[g]? = some (.cells #[] 56 (0, 0)) ∧ p ≤ g
    | 1 => v = .pointer (some ⟨p, 0, none⟩)
    | 2 => v = .slice ao cs.length cap
    | 3 => ∃ g k, v = .slice (some ⟨g, 0, none⟩) cs.length k ∧ u.ownsRow p 56 9 v cs.length news
    | 4 => ∃ g, v = .slice (some ⟨g, 0, none⟩) 0 0 ∧ u.heap[g]? = some (.cells #[] 9 (0, 0)) ∧ p ≤ g
    | 5 => v = .pointer (some ⟨p, 1, none⟩)
    | 6 => v = .slice a2 xs.length p2
    | _ => ∃ g k, v = .slice (some ⟨g, 0, none⟩) xs.length k ∧ u.ownsRow p 9 1 v xs.length (xs.map Value.string)) (by kernel_rfl) (by kernel_rfl) 12 rfl (by kernel_rfl) ?_ ?_ ?_
  · intro i v S u u' hi h hb
    match i, hi, h with
    | 0, _, ⟨g, h1, h2, h3⟩ => exact ⟨g, h1, (hb.block g (Array.getElem?_eq_some_iff.1 h2).1).trans h2, h3⟩
    | 1, _, h => exact h
    | 2, _, h => exact h
    | 3, _, ⟨g, k, h1, h2⟩ => exact ⟨g, k, h1, row_keepB h2 (fun b e => hb.block b (h2.lt b e).2)⟩
    | 4, _, ⟨g, h1, h2, h3⟩ => exact ⟨g, h1, (hb.block g (Array.getElem?_eq_some_iff.1 h2).1).trans h2, h3⟩
    | 5, _, h => exact h
    | 6, _, h => exact h
    | 7, _, ⟨g, k, h1, h2⟩ => exact ⟨g, k, h1, row_keepB h2 (fun b e => hb.block b (h2.lt b e).2)⟩
  · intro i o hi ho a u hb hfr hdep
    have u1 : a.tmps.getD 1 undef = .pointer (some ⟨p, 0, none⟩) := hfr 1 (by decide)
    have hq := HQ.out
    have hqu := (hb.block p (Array.getElem?_eq_some_iff.1 hq.1).1).trans hq.1
    have x0 := blk_cell (i := 0) hqu (by simp)
    have x1 := blk_cell (i := 1) hqu (by simp)
    clear hqu hq
    have hbw : Below w.heap.size w u := HBW.out.trans (hb.mono HBW.out.size)
    have hpu : p ≤ u.heap.size := by have := HPP.out; have := hb.size; omega
    match i, hi with
    | 0, _ =>
      obtain rfl : _ = o := by simpa using ho
      refine fact_value (w' := u.alloc (.cells #[] 56)) (v := .slice (some ⟨u.heap.size, 0, none⟩) 0 0) ?_ ((Below.refl _ _).alloc (Nat.le_refl _) _) ⟨[], ⟨u.heap.size, rfl, heap_alloc_new _ _, hpu⟩, by simp⟩
      simp only [execOp]
      go_simp
    | 1, _ =>
      obtain rfl : _ = o := by simpa using ho
      refine fact_value (w' := u) (v := .pointer (some ⟨p, 0, none⟩)) ?_ (Below.refl _ _) ⟨[], rfl, by simp⟩
      simp only [execOp, Act.eval, u1]
      go_simp
    | 2, _ =>
      obtain rfl : _ = o := by simpa using ho
      obtain ⟨_, h1⟩ : ∃ _ : List Nat, a.tmps.getD 4 undef = .pointer (some ⟨p, 0, none⟩) := hdep 1 (by kernel_rfl)
      refine fact_value (w' := u) (v := .slice ao cs.length cap) ?_ (Below.refl _ _) ⟨[], rfl, by simp⟩
      simp only [execOp, Act.eval, h1]
      go_simp
    | 3, _ =>
      obtain rfl : _ = o := by simpa using ho
      obtain ⟨_, g1, h0, k0, hpg⟩ : ∃ _ : List Nat, ∃ g, a.tmps.getD 3 undef = .slice (some ⟨g, 0, none⟩) 0 0 ∧ u.heap[g]? = some (.cells #[] 56 (0, 0)) ∧ p ≤ g := hdep 0 (by kernel_rfl)
      obtain ⟨_, h2⟩ : ∃ _ : List Nat, a.tmps.getD 5 undef = .slice ao cs.length cap := hdep 2 (by kernel_rfl)
      obtain ⟨v1, v2, v3, v4, v5⟩ := HV.out
      obtain ⟨v', u', hr, r1, r2, g, k, r3⟩ := app_clauses cs u _ news ao cap g1 p rfl v2 v1 (fun hne => by
        obtain ⟨b, off, e, hc⟩ := v3 hne
        exact ⟨b, off, e, fun j z hj => cell_keep (hc j z hj) hbw⟩) v4 k0 hpg
      refine fact_value (w' := u') (v := v') ?_ r2 ⟨[], ⟨g, k, r3, r1⟩, by simp⟩
      have z1 : a.eval (.tmp 3) = .slice (some ⟨g1, 0, none⟩) 0 0 := h0
      have z4 : a.eval (.tmp 5) = .slice ao cs.length cap := h2
      simp only [execOp, resolve, invoke, builtin, Sem.run_bind, Sem.run_pure, Result.andThen_ok, List.map_toArray, List.map_cons, List.map_nil, z1, z4, hr]
    | 4, _ =>
      obtain rfl : _ = o := by simpa using ho
      refine fact_value (w' := u.alloc (.cells #[] 9)) (v := .slice (some ⟨u.heap.size, 0, none⟩) 0 0) ?_ ((Below.refl _ _).alloc (Nat.le_refl _) _) ⟨[], ⟨u.heap.size, rfl, heap_alloc_new _ _, hpu⟩, by simp⟩
      simp only [execOp]
      go_simp
    | 5, _ =>
      obtain rfl : _ = o := by simpa using ho
      refine fact_value (w' := u) (v := .pointer (some ⟨p, 1, none⟩)) ?_ (Below.refl _ _) ⟨[], rfl, by simp⟩
      simp only [execOp, Act.eval, u1]
      go_simp
    | 6, _ =>
      obtain rfl : _ = o := by simpa using ho
      obtain ⟨_, h1⟩ : ∃ _ : List Nat, a.tmps.getD 8 undef = .pointer (some ⟨p, 1, none⟩) := hdep 5 (by kernel_rfl)
      refine fact_value (w' := u) (v := .slice a2 xs.length p2) ?_ (Below.refl _ _) ⟨[], rfl, by simp⟩
      simp only [execOp, Act.eval, h1]
      go_simp
    | 7, _ =>
      obtain rfl : _ = o := by simpa using ho
      obtain ⟨_, g1, h0, k0, hpg⟩ : ∃ _ : List Nat, ∃ g, a.tmps.getD 7 undef = .slice (some ⟨g, 0, none⟩) 0 0 ∧ u.heap[g]? = some (.cells #[] 9 (0, 0)) ∧ p ≤ g := hdep 4 (by kernel_rfl)
      obtain ⟨_, h2⟩ : ∃ _ : List Nat, a.tmps.getD 9 undef = .slice a2 xs.length p2 := hdep 6 (by kernel_rfl)
      obtain ⟨v', u', hr, r1, r2, g, k, r3⟩ := app_strs xs u _ g1 p (HX.out.keep hbw) HV.out.2.2.2.2 k0 hpg
      refine fact_value (w' := u') (v := v') ?_ r2 ⟨[], ⟨g, k, r3, r1⟩, by simp⟩
      have z1 : a.eval (.tmp 7) = .slice (some ⟨g1, 0, none⟩) 0 0 := h0
      have z4 : a.eval (.tmp 9) = .slice a2 xs.length p2 := h2
      simp only [execOp, resolve, invoke, builtin, Sem.run_bind, Sem.run_pure, Result.andThen_ok, List.map_toArray, List.map_cons, List.map_nil, z1, z4, hr]
  intro vals S u hb hf _
  obtain ⟨g, k, e3, r3⟩ := (hf 3 (by omega)).1
  obtain ⟨g', k', e7, r7⟩ := (hf 7 (by omega)).1
  rw [e3] at r3
  rw [e7] at r7
  simp only [putN, List.getElem?_toArray, List.getElem?_cons_zero, List.getElem?_cons_succ, Option.bind_some, List.drop_succ_cons, List.drop_zero, e3, e7]
  generalize vals 0 = m0
  generalize vals 1 = m1
  generalize vals 2 = m2
  generalize vals 4 = m4
  generalize vals 5 = m5
  generalize vals 6 = m6
  simp only [Act.put, List.setIfInBounds_toArray, List.set_cons_succ, List.set_cons_zero]
  have hq := HQ.out
  have hk2 := (hb.block (p + 1) (Array.getElem?_eq_some_iff.1 hq.2).1).trans hq.2
  have HFIN : Hid (∀ V, V = (u.setCell ⟨p + 1, 0, none⟩ (.slice (some ⟨g, 0, none⟩) cs.length k)).setCell ⟨p + 1, 1, none⟩ (.slice (some ⟨g', 0, none⟩) xs.length k') → V.heap[p + 1]? = some (.cells #[.slice (some ⟨g, 0, none⟩) cs.length k, .slice (some ⟨g', 0, none⟩) xs.length k'] 29 (0, 0)) ∧
      V.ownsRow p 56 9 (.slice (some ⟨g, 0, none⟩) cs.length k) cs.length news ∧ V.ownsRow p 9 1 (.slice (some ⟨g', 0, none⟩) xs.length k') xs.length (xs.map Value.string) ∧ Below p w V) := by
    rintro V rfl
    have hpp := HPP.out
    have hbw : Below w.heap.size w u := HBW.out.trans (hb.mono HBW.out.size)
    have hbV := below_set (i := 1) (below_set (i := 0) hbw (g := p + 1) (by omega) (.slice (some ⟨g, 0, none⟩) cs.length k)) (g := p + 1) (by omega) (.slice (some ⟨g', 0, none⟩) xs.length k')
    -- the result's block is neither row
    have hg : g ≠ p + 1 := fun e => by
      rcases r3.2 with ⟨h, _⟩ | ⟨g9, cap9, cur9, e9, _, hh, _⟩
      · cases h
      · cases e9
        rw [e, hk2] at hh
        cases hh
    have hg' : g' ≠ p + 1 := fun e => by
      rcases r7.2 with ⟨h, _⟩ | ⟨g9, cap9, cur9, e9, _, hh, _⟩
      · cases h
      · cases e9
        rw [e, hk2] at hh
        cases hh
    refine ⟨by simpa using blk_set (i := 1) (blk_set (i := 0) hk2 (.slice (some ⟨g, 0, none⟩) cs.length k)) (.slice (some ⟨g', 0, none⟩) xs.length k'), ?_, ?_, by rw [hpp.1]; rw [hpp.1] at hbV; exact hbV⟩
    · refine row_keepB r3 fun b e => ?_
      obtain rfl : g = b := by simpa [Value.ownBlock] using e
      rw [blk_other _ hg, blk_other _ hg]
    · refine row_keepB r7 fun b e => ?_
      obtain rfl : g' = b := by simpa [Value.ownBlock] using e
      rw [blk_other _ hg', blk_other _ hg']
  have y0 := blk_cell (i := 0) hk2 (by simp)
  have y1 := blk_cell (i := 1) hk2 (by simp)
  have f0 := blk_frozen hk2 0
  have f1 := blk_frozen hk2 1
  clear hf hk2 hq r3 r7 e3 e7 hb
  go_wp2
  obtain ⟨r1, r2⟩ := HFIN.out _ rfl
  refine bodyPost_ret_by (results_cell_row rfl _ _ (p + 1) 29 _ (0, 0) _ rfl r1 Try.underlying29 rfl (by kernel_rfl)) rfl ?_
  exact ⟨g, k, g', k', rfl, by simpa only [HPP.out.1] using r2⟩
end Go.Proofs.Ytmhmlkdoaojimap

/- A row of terms that grows by appends. Of no program. -/
namespace Go.Proofs.Ytmhmlkdoaojimap
open Go.RowKit

/-- what was put together so far: a row of its own, and the terms in it in blocks of their own -/
def OutS (e : TypeId) (w : World) (B : Nat) (ks : List Tm) (v : Value) (F : List Nat) : Prop :=
  ∃ cs g, w.ownsRow B e 4 v ks.length cs ∧ v.ownBlock = some g ∧ OwnRow e w ks cs F ∧ (∀ f ∈ F, B ≤ f) ∧ B ≤ g ∧ (g :: F).Nodup

theorem OutS.own {e : TypeId} {w : World} {B : Nat} {ks : List Tm} {v : Value} {F : List Nat} (h : OutS e w B ks v F) : ∃ F', OwnS e w ks v F' ∧ (∀ f ∈ F', B ≤ f) ∧ F'.Nodup := by
  obtain ⟨cs, g, h1, h2, h3, h4, h5, h6⟩ := h
  refine ⟨g :: F, ?_, ?_, h6⟩
  · rcases h1.2 with ⟨rfl, _⟩ | ⟨g', cap, cur, rfl, hb, hh, hr⟩
    · cases h2
    · obtain rfl : g' = g := by simpa [Value.ownBlock] using h2
      exact Or.inr ⟨g', cap, cs, F, rfl, ⟨h1.1, Or.inr ⟨g', cap, cur, rfl, Nat.zero_le _, hh, hr⟩⟩, rfl, h3⟩
  · intro f hf
    rcases List.mem_cons.1 hf with rfl | hf
    · exact h5
    · exact h4 f hf

theorem OutS.lt {e : TypeId} {w : World} {B : Nat} {ks : List Tm} {v : Value} {F : List Nat} (h : OutS e w B ks v F) : (∀ f ∈ F, f < w.heap.size) ∧ ∀ g, v.ownBlock = some g → g < w.heap.size := by
  obtain ⟨cs, g, h1, h2, h3, h4, h5, h6⟩ := h
  exact ⟨OwnRow.lt _ _ _ h3, fun g hg => (h1.lt g hg).2⟩

theorem OutS.shape {e : TypeId} {w : World} {B : Nat} {ks : List Tm} {v : Value} {F : List Nat} (h : OutS e w B ks v F) : ∃ g cap, v = .slice (some ⟨g, 0, none⟩) ks.length cap ∧ B ≤ g ∧ g < w.heap.size ∧ ks.length ≤ cap ∧ cap ≤ maxLen := by
  obtain ⟨cs, g, h1, h2, h3, h4, h5, h6⟩ := h
  rcases h1.2 with ⟨rfl, _⟩ | ⟨g', cap, cur, rfl, hb, hh, hr, hm, _⟩
  · cases h2
  · exact ⟨g', cap, rfl, hb, (Array.getElem?_eq_some_iff.1 hh).1, hr, hm⟩

theorem OutS.keep {e : TypeId} {w w' : World} {B : Nat} {ks : List Tm} {v : Value} {F : List Nat} (h : OutS e w B ks v F) (hb : ∀ k, B ≤ k → k < w.heap.size → w'.heap[k]? = w.heap[k]?) : OutS e w' B ks v F := by
  have hlt := h.lt
  obtain ⟨cs, g, h1, h2, h3, h4, h5, h6⟩ := h
  refine ⟨cs, g, ?_, h2, OwnRow.keep _ _ _ h3 fun f hf => hb f (h4 f hf) (hlt.1 f hf), h4, h5, h6⟩
  rcases h1.2 with ⟨rfl, _⟩ | ⟨g', cap, cur, rfl, hb', hh, hr⟩
  · cases h2
  · exact ⟨h1.1, Or.inr ⟨g', cap, cur, rfl, hb', (hb g' hb' (Array.getElem?_eq_some_iff.1 hh).1).trans hh, hr⟩⟩

theorem outS_new {e : TypeId} {w : World} {B : Nat} (hB : B ≤ w.heap.size) (cap : Nat) (hc : cap ≤ maxLen) (M : Array Value) (hM : M.size = cap * 4) : OutS e (w.alloc (.cells M e)) B [] (.slice (some ⟨w.heap.size, 0, none⟩) 0 cap) [] := by
  refine ⟨[], w.heap.size, ⟨by simp, Or.inr ⟨w.heap.size, cap, M, rfl, hB, heap_alloc_new w _, Nat.zero_le _, hc, hM, by simp⟩⟩, rfl, by simp [OwnRow], by simp, hB, by simp⟩

/-- one more term behind it -/
theorem OutS.push {e : TypeId} {w1 w2 : World} {B : Nat} {ks : List Tm} {v v' : Value} {F F2 : List Nat} {t : Tm} {c0 c1 c2 c3 : Value} {cs : List Value} {g : Nat}
    (h1 : w1.ownsRow B e 4 v ks.length cs) (hg : v.ownBlock = some g) (hr : OwnRow e w1 ks cs F) (hF : ∀ f ∈ F, B ≤ f) (hBg : B ≤ g) (hnd : (g :: F).Nodup)
    (ht : Own e w1 t (.agg #[c0, c1, c2, c3]) F2) (hF2 : ∀ f ∈ F2, B ≤ f) (hnd2 : F2.Nodup) (hdis : ∀ f ∈ F2, f ∉ g :: F)
    (hown : w2.ownsRow B e 4 v' (ks.length + 1) (cs ++ [c0, c1, c2, c3])) (hgrow : w1.grownBy w2 v.ownBlock) (hat : v'.ownBlock = v.ownBlock ∨ v'.ownBlock = some w1.heap.size) :
    OutS e w2 B (ks ++ [t]) v' (F ++ F2) := by
  have hlt := OwnRow.lt _ _ _ hr
  have hlt2 := Own.lt _ _ _ ht
  have hglt := (h1.lt g hg).2
  rw [List.nodup_cons] at hnd
  have hk : ∀ f, f < w1.heap.size → f ≠ g → w2.heap[f]? = w1.heap[f]? := fun f hf hne => hgrow.block f hf (by rw [hg]; intro e; exact hne (by simpa using e))
  obtain ⟨g', hg', hgg⟩ : ∃ g', v'.ownBlock = some g' ∧ (g' = g ∨ g' = w1.heap.size) := by
    rcases hat with hat | hat
    · exact ⟨g, hat.trans hg, Or.inl rfl⟩
    · exact ⟨_, hat, Or.inr rfl⟩
  have hne : ∀ f ∈ F, f ≠ g := fun f hf e => hnd.1 (e ▸ hf)
  have hne2 : ∀ f ∈ F2, f ≠ g := fun f hf e => hdis f hf (by simp [e])
  refine ⟨cs ++ [c0, c1, c2, c3], g', by simpa using hown, hg', ?_, ?_, ?_, ?_⟩
  · exact OwnRow.snoc (Own.keep _ _ _ ht fun f hf => hk f (hlt2 f hf) (hne2 f hf)) _ _ _ (OwnRow.keep _ _ _ hr fun f hf => hk f (hlt f hf) (hne f hf))
  · intro f hf
    rcases List.mem_append.1 hf with hf | hf
    · exact hF f hf
    · exact hF2 f hf
  · rcases hgg with rfl | rfl
    · exact hBg
    · omega
  · refine List.nodup_cons.2 ⟨fun hf => ?_, List.nodup_append.2 ⟨hnd.2, hnd2, fun a ha b hb e => hdis b hb (by rw [← e]; simp [ha])⟩⟩
    rcases List.mem_append.1 hf with hf | hf
    · rcases hgg with rfl | rfl
      · exact hnd.1 hf
      · have := hlt _ hf; omega
    · rcases hgg with rfl | rfl
      · exact hne2 _ hf rfl
      · have := hlt2 _ hf; omega
end Go.Proofs.Ytmhmlkdoaojimap

/- spec.l34Term, spec.l34Terms: a copy in memory of its own, of a term that is a little greater. -/
namespace Go.Proofs.Ytmhmlkdoaojimap
open Go.RowKit

def L34OkB (t : Tm) : Prop := ∀ (w : World) (v : Value), TmIn w t v → t.wt ≤ 1100000 →
  Calls Try.prog 45 #[v] w fun e w' => ∃ v' F, e = .returned v' ∧ Own 54 w' t v' F ∧ (∀ f ∈ F, w.heap.size ≤ f) ∧ F.Nodup ∧ Below w.heap.size w w'

set_option maxRecDepth 20000 in
theorem l34_termsB (ks : List Tm) (hks : ∀ t ∈ ks, L34OkB t) (w : World) (ao : Option Addr) (cap : Nat) (hlen : ks.length + wts ks ≤ 1100000) (h : ks ≠ [] → ∃ b off, ao = some ⟨b, off, none⟩ ∧ TmsIn w ks b off) :
    Calls Try.prog 49 #[.slice ao ks.length cap] w fun e w' => ∃ sl F, e = .returned sl ∧ OwnS 54 w' ks sl F ∧ (∀ f ∈ F, w.heap.size ≤ f) ∧ F.Nodup ∧ Below w.heap.size w w' := by
  obtain ⟨i0, hi, hz0, hz1, hz2⟩ := info_parts infoT
  go_enter Try.func49, Try.ntmps49
  go_wp2
  go_loopw [3, 4] (fun vo vi wr => ∃ (j : Nat) (F : List Nat) (v : Value), j ≤ ks.length ∧ vi = .int .i64 (j : Int) ∧ v = vo ∧ Hid (Below w.heap.size w wr) ∧ Hid (OutS 54 wr w.heap.size (ks.take j) v F)) (fun _ i _ => ks.length - (intOf i).toNat)
  case atStart =>
    exact ⟨0, [], _, by omega, rfl, rfl, (Below.refl _ _).alloc (Nat.le_refl _) _, outS_new (Nat.le_refl _) 0 (Nat.zero_le _) _ rfl⟩
  case round =>
    obtain ⟨j, F, vo, hj, rfl, rfl, HB, HO⟩ := hrel
    by_cases hlt : j < ks.length
    · obtain ⟨b, off, rfl, hin⟩ := h (by intro e; subst e; simp at hlt)
      obtain ⟨c0, c1, c2, c3, h0, h1, h2, h3, ht⟩ := (TmsIn.keep HB.out ks b off hin).at j hlt
      have hwj := wt_le (List.getElem_mem hlt)
      have HC : Hid _ := hks ks[j] (List.getElem_mem hlt) wr _ ht (by omega)
      obtain ⟨g, cp, rfl, hBg, hgl, _, _⟩ := HO.out.shape
      have hl : (ks.take j).length = j := by rw [List.length_take]; omega
      rw [hl]
      have HK : Hid (∀ w1, Below wr.heap.size wr w1 → ∃ cs, w1.ownsRow w.heap.size 54 4 (.slice (some ⟨g, 0, none⟩) j cp) j cs ∧ OwnRow 54 w1 (ks.take j) cs F ∧ (∀ f ∈ F, w.heap.size ≤ f) ∧ (g :: F).Nodup ∧ (∀ f ∈ g :: F, f < wr.heap.size)) := fun w1 hb => by
        have hlt' := HO.out.lt
        obtain ⟨cs, g', q1, q2, q3, q4, q5, q6⟩ := HO.out.keep fun k _ hk => hb.block k hk
        obtain rfl : g = g' := by simpa [Value.ownBlock] using q2
        rw [hl] at q1
        refine ⟨cs, q1, q3, q4, q6, fun f hf => ?_⟩
        rcases List.mem_cons.1 hf with rfl | hf
        · exact hlt'.2 _ rfl
        · exact hlt'.1 f hf
      have hszw := HB.out.size
      clear hin ht h hks hl
      go_wp2_with (first
        | (go_at_call 45; refine (Calls.mono HC.out ?_); rintro e w1 ⟨v', F2, rfl, hown, hfr, hnd, hb⟩; obtain ⟨k', s', n', ao', len', cap', rfl⟩ := own_shape hown; have HOWN : Hid (Own 54 w1 ks[j] (.agg #[.int .i64 k', .string s', .int .i64 n', .slice ao' len' cap']) F2) := hown; have HFR : Hid (∀ f ∈ F2, wr.heap.size ≤ f) := hfr; have HND : Hid (F2.Nodup) := hnd; have HBB : Hid (Below wr.heap.size wr w1) := hb; have hsz1 := hb.size; obtain ⟨cs, q1, q3, q4, q6, q7⟩ := HK.out w1 hb; have Q1 : Hid (w1.ownsRow w.heap.size 54 4 (.slice (some ⟨g, 0, none⟩) j cp) j cs) := q1; have Q3 : Hid (OwnRow 54 w1 (ks.take j) cs F) := q3; have Q4 : Hid (∀ f ∈ F, w.heap.size ≤ f) := q4; have Q6 : Hid ((g :: F).Nodup) := q6; have Q7 : Hid (∀ f ∈ g :: F, f < wr.heap.size) := q7; clear q1 q3 q4 q6 q7 hown hfr hb hnd)
        | (at_builtin; go_loud (refine wpList_append_own_at _ rfl _ _ 52 rfl w.heap.size 54 i0 (.agg #[.int .i64 0, .string ⟨#[]⟩, .int .i64 0, .slice none 0 0]) 4 56 Try.underlying52 hi hz0 hz1 hz2 rfl (by decide) _ _ _ rfl (Q1.out.alloc _) ⟨w1.heap.size, 0, none⟩ 1 1 [.int .i64 k', .string s', .int .i64 n', .slice ao' len' cap'] rfl rfl ?c1 ?c2 ?c3 ?c4 ?c5 ?_)))
      case c1 =>
        intro j z hj
        match j, hj with
        | 0, hj => simp at hj; subst hj; simp [Addr.add]
        | 1, hj => simp at hj; subst hj; simp [Addr.add]
        | 2, hj => simp at hj; subst hj; simp [Addr.add]
        | 3, hj => simp at hj; subst hj; simp [Addr.add]
      case c2 => intro z hz; simp at hz; rcases hz with rfl | rfl | rfl | rfl <;> rfl
      case c3 => unfold maxLen; omega
      case c4 => omega
      case c5 => simp; omega
      · intro v' w2 hown' hgrow _ hat
        obtain ⟨W, hW⟩ : ∃ W, W = w1.alloc (.cells #[.int .i64 k', .string s', .int .i64 n', .slice ao' len' cap'] 54) := ⟨_, rfl⟩
        rw [← hW] at hgrow
        rw [show w1.heap.size + 1 = W.heap.size by rw [hW]; simp] at hat
        have bW : Below w1.heap.size w1 W := by rw [hW]; exact (Below.refl _ _).alloc (Nat.le_refl _) _
        have HFIN : Hid (OutS 54 w2 w.heap.size (ks.take j ++ [ks[j]]) v' (F ++ F2)) := by
          have q7 := Q7.out
          refine OutS.push (w1 := W) (g := g) (cs := cs) ?_ rfl (OwnRow.keep _ _ _ Q3.out fun f hf => bW.block f (OwnRow.lt _ _ _ Q3.out f hf)) Q4.out hBg Q6.out (Own.keep _ _ _ HOWN.out fun f hf => bW.block f (Own.lt _ _ _ HOWN.out f hf)) (fun f hf => by have := HFR.out f hf; omega) HND.out (fun f hf h' => by have := HFR.out f hf; have := q7 f h'; omega) ?_ hgrow hat
          · rw [List.length_take, Nat.min_eq_left hj, hW]; exact World.ownsRow.alloc Q1.out _
          · rw [List.length_take, Nat.min_eq_left hj]; exact hown'
        have HBN : Hid (Below w.heap.size w w2) := by
          have b1 : Below w.heap.size w W := (HB.out.trans (HBB.out.mono hszw)).trans (bW.mono (by omega))
          refine ⟨hgrow.os.trans b1.os, hgrow.tape.trans b1.tape, hgrow.output.trans b1.output, Nat.le_trans b1.size hgrow.size, fun k hk => ?_⟩
          rw [hgrow.block k (Nat.lt_of_lt_of_le hk b1.size) (by intro e; have : k = g := by simpa [Value.ownBlock] using e
                                                                omega)]
          exact b1.block k hk
        clear hown' hgrow hat Q1 Q3 Q4 Q6 Q7 HOWN HFR HND HBB bW hW
        go_wp2
        go_roundw
        case rel => exact ⟨j + 1, _, _, by omega, by go_num, rfl, HBN.out, by rw [List.take_succ_eq_append_getElem hlt]; exact HFIN.out⟩
        case measure => simp [intOf]; omega
    · have HE : Hid (OutS 54 wr w.heap.size ks vo F) := by
        have := HO.out
        rw [List.take_of_length_le (by omega)] at this
        exact this
      obtain ⟨g, cp, rfl, _⟩ := HE.out.shape
      clear HO
      go_wp2
      go_ret
      obtain ⟨F', q1, q2, q3⟩ := HE.out.own
      exact ⟨_, F', rfl, q1, q2, q3, HB.out⟩

set_option maxRecDepth 20000 in
theorem l34_termB (t : Tm) : L34OkB t := by
  refine tm_ind (p := L34OkB) ?_ t
  clear t
  intro k s n ks hks w v hin hwt
  unfold TmIn at hin
  obtain ⟨ao, cap, rfl, hk, hn, hs, hlen, hcap, hrow⟩ := hin
  have ew : (Tm.mk k s n ks).wt = s.size + (ks.length + wts ks) := by simp [Tm.wt, wts]; omega
  rw [ew] at hwt
  obtain ⟨W, hW⟩ : ∃ W, W = (w.alloc (.cells #[.int .i64 k, .string s, .int .i64 n, .slice ao ks.length cap] 54)).alloc (.cells #[.int .i64 0, .string ⟨#[]⟩, .int .i64 0, .slice none 0 0] 54) := ⟨_, rfl⟩
  have bW : Below w.heap.size w W := by rw [hW]; exact ((Below.refl _ _).alloc (Nat.le_refl _) _).alloc (by simp) _
  have HC := l34_termsB ks hks W ao cap (by omega) (fun h0 => by obtain ⟨b, off, e, hr⟩ := hrow h0; exact ⟨b, off, e, TmsIn.keep bW ks b off hr⟩)
  have k1 : W.heap[w.heap.size]? = some (.cells #[.int .i64 k, .string s, .int .i64 n, .slice ao ks.length cap] 54 (0, 0)) := by rw [hW]; exact (alloc_old _ _ (by simp)).trans (alloc_at _ _ rfl)
  have k2 : W.heap[w.heap.size + 1]? = some (.cells #[.int .i64 0, .string ⟨#[]⟩, .int .i64 0, .slice none 0 0] 54 (0, 0)) := by rw [hW]; exact alloc_at _ _ (by simp)
  have lW : W.heap.size = w.heap.size + 2 := by rw [hW]; simp
  rw [hW] at HC
  replace HC : Hid _ := HC
  have HBW : Hid (Below w.heap.size w W) := bW
  have HK : Hid (∀ w1, Below W.heap.size W w1 → w1.heap[w.heap.size]? = some (.cells #[.int .i64 k, .string s, .int .i64 n, .slice ao ks.length cap] 54 (0, 0)) ∧ w1.heap[w.heap.size + 1]? = some (.cells #[.int .i64 0, .string ⟨#[]⟩, .int .i64 0, .slice none 0 0] 54 (0, 0))) := fun w1 hb => ⟨(hb.block _ (by omega)).trans k1, (hb.block _ (by omega)).trans k2⟩
  clear hks hrow ew k1 k2 bW
  go_enter Try.func45, Try.ntmps45
  go_wp2_with (go_at_call 49; refine (Calls.mono HC.out ?_); rintro e w1 ⟨sl, F, rfl, hown, hfr, hnd, hb⟩; rw [← hW] at hfr hb; obtain ⟨ao2, len2, cap2, rfl⟩ : ∃ ao2 len2 cap2, sl = .slice ao2 len2 cap2 := (by rcases hown with ⟨rfl, _⟩ | ⟨g, cap, cs, F', rfl, _⟩ <;> exact ⟨_, _, _, rfl⟩); obtain ⟨hb2, hb1⟩ := HK.out w1 hb; have HOWN : Hid (OwnS 54 w1 ks (.slice ao2 len2 cap2) F) := hown; have HFR : Hid (∀ f ∈ F, W.heap.size ≤ f) := hfr; have HBB : Hid (Below W.heap.size W w1) := hb; have y0 := blk_cell (i := 0) hb2 (by simp); have y1 := blk_cell (i := 1) hb2 (by simp); have y2 := blk_cell (i := 2) hb2 (by simp); have y3 := blk_cell (i := 3) hb2 (by simp); have z3 := blk_frozen hb2 3; have x0 := blk_cell (i := 0) hb1 (by simp); have x1 := blk_cell (i := 1) hb1 (by simp); have x2 := blk_cell (i := 2) hb1 (by simp); have x3 := blk_cell (i := 3) hb1 (by simp); have u0 := blk_frozen hb1 0; have u1 := blk_frozen hb1 1; have u2 := blk_frozen hb1 2; have u3 := blk_frozen hb1 3; simp only [List.getElem_toArray, List.getElem_cons_zero, List.getElem_cons_succ] at y0 y1 y2 y3 x0 x1 x2 x3; have H1 : Hid (w1.heap[w.heap.size + 1]? = some (.cells #[.int .i64 0, .string ⟨#[]⟩, .int .i64 0, .slice none 0 0] 54 (0, 0))) := hb1; clear hown hfr hb hb2 hb1)
  have hsz := HBB.out.size
  have hR : (((((w1.setCell ⟨w.heap.size, 3, none⟩ (.slice ao2 len2 cap2)).setCell ⟨w.heap.size + 1, 0, none⟩ (.int .i64 k)).setCell ⟨w.heap.size + 1, 1, none⟩ (.string s)).setCell ⟨w.heap.size + 1, 2, none⟩ (.int .i64 n)).setCell ⟨w.heap.size + 1, 3, none⟩ (.slice ao2 len2 cap2)).heap[w.heap.size + 1]? = some (.cells #[.int .i64 k, .string s, .int .i64 n, .slice ao2 len2 cap2] 54 (0, 0)) := by
    have := blk_set (i := 3) (blk_set (i := 2) (blk_set (i := 1) (blk_set (i := 0) ((blk_other (g := w.heap.size) (i := 3) (w := w1) (.slice ao2 len2 cap2) (show w.heap.size + 1 ≠ w.heap.size by omega)).trans H1.out) (.int .i64 k)) (.string s)) (.int .i64 n)) (.slice ao2 len2 cap2)
    simpa using this
  have hbl : Below w.heap.size w w1 := HBW.out.trans (HBB.out.mono HBW.out.size)
  refine bodyPost_ret_by (results_cell_row rfl _ _ (w.heap.size + 1) 54 _ (0, 0) _ rfl hR Try.underlying54 rfl (by kernel_rfl)) rfl ?_
  refine ⟨_, F, rfl, own_mk ?_ hk hn hs, ?_, hnd, ?_⟩
  · refine OwnS.keep HOWN.out fun f hf => ?_
    have := HFR.out f hf
    rw [blk_other _ (by omega), blk_other _ (by omega), blk_other _ (by omega), blk_other _ (by omega), blk_other _ (by omega)]
  · intro f hf
    have := HFR.out f hf
    omega
  · exact below_set (below_set (below_set (below_set (below_set hbl (by omega) _) (by omega) _) (by omega) _) (by omega) _) (by omega) _
end Go.Proofs.Ytmhmlkdoaojimap
