/- A region that draws its order and makes memory: each of its first operations is shown once, over all worlds that are as the first one was below its end, with what it leaves behind for the others; what is so stays so; then the rest of the region in its own order. -/
import Derived.WalkKit
import Derived.StillTail
namespace Go.Proofs.YtmhmlkdoaojimapDoor
open Go.RowKit

def dstOf (ops : Array Oper) (i : Nat) : Nat := ((ops[i]?).bind (·.dst)).getD 0

def firstN (m n : Nat) : Array Bool := Array.ofFn (n := m) fun i => decide (i.val < n)

/-- the look at a region's text -/
def factsB (ops : Array Oper) (n : Nat) : Bool :=
  decide (n < ops.size) && Region.sinkB .any ops n && Region.chainB .any ops n && Region.seqB .any ops (ops.size - n) n (firstN ops.size n) &&
  (List.range n).all (fun i => match ops[i]? with | some o => o.guard.isNone && o.dst.isSome && o.after.all (fun e => !Region.binds .any e || decide (e.on < i)) && ((List.range i).all fun j => dstOf ops j != dstOf ops i) | none => false)

structure FrameAt (ops : Array Oper) (n : Nat) (a0 a : Act) : Prop where
  size : a.tmps.size = a0.tmps.size
  defers : a.defers = a0.defers
  same : ∀ s, (∀ i, i < n → dstOf ops i ≠ s) → a.tmps.getD s undef = a0.tmps.getD s undef

def putN (ops : Array Oper) (a0 : Act) (vals : Nat → Value) : Nat → Act
  | 0 => a0
  | k + 1 => (putN ops a0 vals k).put ((ops[k]?).bind (·.dst)) (vals k)

section
variable {P : Program} {ops : Array Oper} {Q : Exit → Act → World → Prop} {n : Nat}

theorem put_getD {a : Act} {d s : Nat} {v : Value} (hd : d < a.tmps.size) : (a.put (some d) v).tmps.getD s undef = if d = s then v else a.tmps.getD s undef := by
  unfold Act.put
  by_cases h : d = s
  · subst h; simp [hd]
  · simp [h, Array.getElem?_setIfInBounds_ne h]
theorem put_size {a : Act} {d : Nat} {v : Value} : (a.put (some d) v).tmps.size = a.tmps.size := by unfold Act.put; simp
theorem put_defers {a : Act} {d : Nat} {v : Value} : (a.put (some d) v).defers = a.defers := by unfold Act.put; rfl

structure FactsOk (ops : Array Oper) (n : Nat) : Prop where
  lt : n < ops.size
  sink : Region.sinkB .any ops n = true
  chain : Region.chainB .any ops n = true
  seq : Region.seqB .any ops (ops.size - n) n (firstN ops.size n) = true
  ops : ∀ i, i < n → ∃ o d, ops[i]? = some o ∧ o.guard = none ∧ o.dst = some d ∧ dstOf ops i = d ∧ (∀ e ∈ o.after, Region.binds .any e = true → e.on < i) ∧ ∀ j, j < i → dstOf ops j ≠ d

theorem factsOk_of (h : factsB ops n = true) : FactsOk ops n := by
  unfold factsB at h
  simp only [Bool.and_eq_true, decide_eq_true_eq] at h
  obtain ⟨⟨⟨⟨h1, h2⟩, h3⟩, h4⟩, h5⟩ := h
  refine ⟨h1, h2, h3, h4, fun i hi => ?_⟩
  have h6 := List.all_eq_true.1 h5 i (by simpa using hi)
  cases ho : ops[i]? with
  | none => rw [ho] at h6; cases h6
  | some o =>
    rw [ho] at h6
    simp only [Bool.and_eq_true] at h6
    obtain ⟨⟨⟨h7, h8⟩, h9⟩, h10⟩ := h6
    obtain ⟨d, hd⟩ := Option.isSome_iff_exists.1 h8
    have hdd : dstOf ops i = d := by unfold dstOf; rw [ho]; simp [hd]
    refine ⟨o, d, rfl, by simpa using h7, hd, hdd, fun e he hb => ?_, fun j hj => ?_⟩
    · obtain ⟨q, hq, rfl⟩ := Array.mem_iff_getElem.1 he
      have := Array.all_eq_true.1 h9 q hq
      rw [hb] at this
      simpa using this
    · have := List.all_eq_true.1 h10 j (by simpa using hj)
      rw [hdd] at this
      simpa using this

theorem putN_at (hf : FactsOk ops n) {a0 : Act} (hsz : ∀ i, i < n → dstOf ops i < a0.tmps.size) (vals : Nat → Value) : ∀ k, k ≤ n →
    (putN ops a0 vals k).tmps.size = a0.tmps.size ∧ (putN ops a0 vals k).defers = a0.defers ∧ (∀ i, i < k → (putN ops a0 vals k).tmps.getD (dstOf ops i) undef = vals i) ∧ ∀ s, (∀ i, i < k → dstOf ops i ≠ s) → (putN ops a0 vals k).tmps.getD s undef = a0.tmps.getD s undef
  | 0, _ => ⟨rfl, rfl, fun i hi => absurd hi (Nat.not_lt_zero _), fun _ _ => rfl⟩
  | k + 1, hk => by
    obtain ⟨h1, h2, h3, h4⟩ := putN_at hf hsz vals k (by omega)
    obtain ⟨o, d, ho, _, hd, hdd, _, hne⟩ := hf.ops k (by omega)
    have hlt := hsz k (by omega)
    rw [hdd] at hlt
    have e : putN ops a0 vals (k + 1) = (putN ops a0 vals k).put (some d) (vals k) := by
      show (putN ops a0 vals k).put ((ops[k]?).bind (·.dst)) (vals k) = _
      rw [ho]; simp [hd]
    rw [e]
    refine ⟨by rw [put_size]; exact h1, by rw [put_defers]; exact h2, fun i hi => ?_, fun s hs => ?_⟩
    · rw [put_getD (by omega)]
      by_cases hik : i = k
      · subst hik; rw [if_pos hdd.symm]
      · rw [if_neg (fun e => hne i (by omega) e.symm)]
        exact h3 i (by omega)
    · rw [put_getD (by omega), if_neg (fun e => hs k (by omega) (by rw [hdd]; exact e))]
      exact h4 s fun i hi => hs i (by omega)

theorem frame_putN (hf : FactsOk ops n) {a0 a : Act} (hsz : ∀ i, i < n → dstOf ops i < a0.tmps.size) (h : FrameAt ops n a0 a) : a = putN ops a0 (fun i => a.tmps.getD (dstOf ops i) undef) n := by
  obtain ⟨h1, h2, h3, h4⟩ := putN_at hf hsz (fun i => a.tmps.getD (dstOf ops i) undef) n (Nat.le_refl _)
  generalize putN ops a0 (fun i => a.tmps.getD (dstOf ops i) undef) n = b at *
  have hg : ∀ s, a.tmps.getD s undef = b.tmps.getD s undef := fun s => by
    by_cases hs : ∃ i, i < n ∧ dstOf ops i = s
    · obtain ⟨i, hi, rfl⟩ := hs
      exact (h3 i hi).symm
    · have hs' : ∀ i, i < n → dstOf ops i ≠ s := fun i hi e => hs ⟨i, hi, e⟩
      rw [h.same s hs', h4 s hs']
  obtain ⟨at', ad⟩ := a
  obtain ⟨bt, bd⟩ := b
  have e2 : ad = bd := h.defers.trans h2.symm
  have e1 : at' = bt := by
    apply Array.ext
    · exact h.size.trans h1.symm
    · intro i hi1 hi2
      have := hg i
      simpa [Array.getD, hi1, hi2] using this
  subst e1 e2
  rfl

/-- what stands when the operations that are listed have come up -/
structure FInv (ops : Array Oper) (n : Nat) (φ : Nat → Value → List Nat → World → Prop) (a0 : Act) (w0 : World) (S : Nat → List Nat) (listed : Array Bool) (a : Act) (w : World) : Prop where
  head : HeadInv .any ops n listed
  later : Below w0.heap.size w0 w
  frame : FrameAt ops n a0 a
  facts : ∀ i, i < n → listed.getD i false = true → φ i (a.tmps.getD (dstOf ops i) undef) (S i) w ∧ ∀ f ∈ S i, w0.heap.size ≤ f ∧ f < w.heap.size
  apart : ∀ i j, i < n → j < n → listed.getD i false = true → listed.getD j false = true → i ≠ j → ∀ f ∈ S i, f ∉ S j

theorem count_set {listed : Array Bool} {i : Nat} (h : listed.getD i true = false) : (listed.setIfInBounds i true).count true = listed.count true + 1 := by
  have hlt : i < listed.size := by
    rcases Nat.lt_or_ge i listed.size with h' | h'
    · exact h'
    · simp [Array.getElem?_eq_none h'] at h
  have hf : listed[i] = false := by simpa [hlt] using h
  rw [Array.setIfInBounds, dif_pos hlt, Array.count_set hlt]
  simp [hf]

theorem facts_any {φ : Nat → Value → List Nat → World → Prop} {a0 : Act} {w0 : World} (hf : FactsOk ops n) (hsz : ∀ i, i < n → dstOf ops i < a0.tmps.size)
    (stab : ∀ i v S w w', i < n → φ i v S w → Below w.heap.size w w' → φ i v S w')
    (hop : ∀ i o, i < n → ops[i]? = some o → ∀ a w, Below w0.heap.size w0 w → FrameAt ops n a0 a → (∀ e ∈ o.after, Region.binds .any e = true → ∃ S, φ e.on (a.tmps.getD (dstOf ops e.on) undef) S w) → o.wp P a w (fun a' w' => ∃ v, a' = a.put o.dst v ∧ Below w.heap.size w w' ∧ ∃ S, φ i v S w' ∧ ∀ f ∈ S, w.heap.size ≤ f ∧ f < w'.heap.size) Q)
    (l : List Oper) (hl : ops = l.toArray)
    (hend : ∀ (vals : Nat → Value) (S : Nat → List Nat) w, Below w0.heap.size w0 w → (∀ i, i < n → φ i (vals i) (S i) w ∧ ∀ f ∈ S i, w0.heap.size ≤ f ∧ f < w.heap.size) → (∀ i j, i < n → j < n → i ≠ j → ∀ f ∈ S i, f ∉ S j) → wpList P ops Q (l.drop n) (putN ops a0 vals n) w) :
    ∀ (f : Nat) (S : Nat → List Nat) (listed : Array Bool) (a : Act) (w : World), FInv ops n φ a0 w0 S listed a w → listed.count true + f = n → wpAny P .any ops Q (f + (ops.size - n)) listed a w
  | 0, S, listed, a, w, h, hc => by
    have hlen : (l.drop n).length = ops.size - n := by rw [hl]; simp
    have hall : ∀ i, i < n → listed.getD i false = true := by
      intro i hi
      cases hq : listed.getD i false with
      | true => rfl
      | false =>
        exfalso
        have hlt : i < listed.size := by rw [h.head.size]; have := hf.lt; omega
        have h1 := count_set (getD_in hlt hq)
        have h2 : (listed.setIfInBounds i true).count true ≤ n := by
          have h3 : ∀ t, n ≤ t → t < ops.size → (listed.setIfInBounds i true).getD t true = false := fun t ht ht' => by rw [getD_set_ne true (by omega)]; exact h.head.tail t ht ht'
          have hsz2 : (listed.setIfInBounds i true).size = ops.size := by simp [h.head.size]
          generalize listed.setIfInBounds i true = L at *
          have e : L.toList = L.toList.take n ++ L.toList.drop n := (List.take_append_drop n _).symm
          rw [← Array.count_toList, e, List.count_append]
          have z : (L.toList.drop n).count true = 0 := by
            rw [List.count_eq_zero]
            intro hm
            obtain ⟨q, hq1, hq2⟩ := List.getElem_of_mem hm
            rw [List.length_drop, Array.length_toList] at hq1
            rw [List.getElem_drop] at hq2
            have := h3 (n + q) (by omega) (by omega)
            have hlt2 : n + q < L.size := by omega
            simp [hlt2] at this
            simp at hq2
            rw [hq2] at this
            cases this
          have z2 := List.count_le_length (a := true) (l := L.toList.take n)
          rw [List.length_take] at z2
          omega
        omega
    have hlst : listed = firstN ops.size n := by
      apply Array.ext
      · rw [h.head.size]; simp [firstN]
      · intro i h1 h2
        simp only [firstN, Array.getElem_ofFn]
        by_cases hi : i < n
        · have := hall i hi
          simpa [h1, hi] using this
        · have := h.head.tail i (by omega) (by rw [← h.head.size]; exact h1)
          simpa [h1, hi] using this
    have hw : wpList P ops Q (l.drop n) a w := by
      rw [frame_putN hf hsz h.frame]
      exact hend _ S w h.later (fun i hi => h.facts i hi (hall i hi)) fun i j hi hj hne => h.apart i j hi hj (hall i hi) (hall j hj) hne
    have := wpAny_of_seq (md := .any) (Q' := Q) (l.drop n) n listed a w (fun j => by rw [hl]; simp [List.getElem?_drop]) (by rw [hlen, hlst]; exact hf.seq) hw
    rw [hlen] at this
    rw [Nat.zero_add]
    exact this
  | f + 1, S, listed, a, w, h, hc => by
    rw [show f + 1 + (ops.size - n) = (f + (ops.size - n)) + 1 by omega]
    -- the first that has not come up
    obtain ⟨i, hin, hiu⟩ : ∃ i, i < n ∧ listed.getD i true = false := by
      refine Classical.byContradiction fun hno => ?_
      have hall : ∀ i, i < n → listed.getD i false = true := fun i hi => by
        cases hq : listed.getD i false with
        | true => rfl
        | false => exact absurd ⟨i, hi, getD_in (by rw [h.head.size]; have := hf.lt; omega) hq⟩ hno
      have : n ≤ listed.count true := by
        have e : listed.toList = listed.toList.take n ++ listed.toList.drop n := (List.take_append_drop n _).symm
        rw [← Array.count_toList, e, List.count_append]
        have z : (listed.toList.take n).count true = (listed.toList.take n).length := by
          rw [List.count_eq_length]
          intro b hb
          obtain ⟨q, hq1, hq2⟩ := List.getElem_of_mem hb
          rw [List.length_take, Array.length_toList] at hq1
          rw [List.getElem_take] at hq2
          have := hall q (by omega)
          have hlt2 : q < listed.size := by omega
          simp [hlt2] at this
          simp at hq2
          rw [← hq2, this]
        rw [z, List.length_take, Array.length_toList, h.head.size]
        have := hf.lt
        omega
      omega
    have hleast : ∃ i, i < n ∧ listed.getD i true = false ∧ ∀ j, j < i → listed.getD j false = true := by
      induction i using Nat.strongRecOn with
      | ind i ih =>
        by_cases hj : ∃ j, j < i ∧ listed.getD j false = false
        · obtain ⟨j, hj1, hj2⟩ := hj
          exact ih j hj1 (by omega) (getD_in (by rw [h.head.size]; have := hf.lt; omega) hj2)
        · refine ⟨i, hin, hiu, fun j hji => ?_⟩
          cases hq : listed.getD j false with
          | true => rfl
          | false => exact absurd ⟨j, hji, hq⟩ hj
    obtain ⟨i0, h01, h02, h03⟩ := hleast
    obtain ⟨o0, d0, ho0, _, _, _, haf0, _⟩ := hf.ops i0 h01
    have hr0 : i0 ∈ Region.ready .any ops listed := mem_ready.2 ⟨h02, o0, ho0, fun e he hb => h03 e.on (haf0 e he hb)⟩
    refine ⟨fun hn => (by rw [hn] at hr0; cases hr0), fun j hj => ?_⟩
    have hjn : j < n := Nat.lt_of_not_le fun hh => tail_waits hf.sink hf.chain hf.lt h.head _ i0 rfl h01 h02 j hh hj
    obtain ⟨hju, oj', hoj', hjall⟩ := mem_ready.1 hj
    obtain ⟨oj, d, hoj, hg, hd, hdd, haf, _⟩ := hf.ops j hjn
    obtain rfl : oj' = oj := Option.some.inj (hoj'.symm.trans hoj)
    have hstep := hop j oj' hjn hoj a w h.later h.frame (fun e he hb => ⟨_, (h.facts e.on (Nat.lt_trans (haf e he hb) hjn) (hjall e he hb)).1⟩)
    unfold wpOp
    rw [hoj]
    simp only [Region.wanted, hg, if_true]
    refine Or.inl (Oper.wp_mono ?_ hstep)
    rintro a' w' ⟨v, rfl, hb, Sj, hφ, hSj⟩
    rw [hd]
    have hdlt : d < a.tmps.size := by rw [h.frame.size, ← hdd]; exact hsz j hjn
    have hls : ∀ k, j ≠ k → (listed.setIfInBounds j true).getD k false = true → listed.getD k false = true := fun k hk hl => by rwa [getD_set_ne false hk] at hl
    refine facts_any hf hsz stab hop l hl hend f (fun k => if k = j then Sj else S k) _ _ _ ⟨h.head.set hj hjn, h.later.trans (hb.mono h.later.size), ⟨by rw [put_size]; exact h.frame.size, by rw [put_defers]; exact h.frame.defers, fun s hs => ?_⟩, fun k hk hkl => ?_, fun k1 k2 h1 h2 hl1 hl2 hne f' hf1 hf2 => ?_⟩ (by rw [count_set hju]; omega)
    · rw [put_getD hdlt, if_neg (fun e => hs j hjn (by rw [hdd]; exact e))]
      exact h.frame.same s hs
    · by_cases hjk : j = k
      · subst hjk
        rw [put_getD hdlt, if_pos hdd.symm, if_pos rfl]
        exact ⟨hφ, fun f' hf' => ⟨Nat.le_trans h.later.size (hSj f' hf').1, (hSj f' hf').2⟩⟩
      · have hne : d ≠ dstOf ops k := by
          rcases Nat.lt_or_gt_of_ne hjk with hlt | hgt
          · obtain ⟨_, dk, _, _, _, hdk, _, hne⟩ := hf.ops k hk
            intro e
            exact hne j hlt (by rw [hdd, e, hdk])
          · obtain ⟨_, dj, _, _, hdj, hdj2, _, hne⟩ := hf.ops j hjn
            intro e
            exact hne k hgt (by rw [← e, ← hdd, hdj2])
        rw [put_getD hdlt, if_neg hne, if_neg (Ne.symm hjk)]
        obtain ⟨q1, q2⟩ := h.facts k hk (hls k hjk hkl)
        exact ⟨stab k _ _ _ _ hk q1 hb, fun f' hf' => ⟨(q2 f' hf').1, Nat.lt_of_lt_of_le (q2 f' hf').2 hb.size⟩⟩
    · by_cases e1 : k1 = j
      · rw [if_pos e1] at hf1
        rw [if_neg (fun e2 => hne (e1.trans e2.symm))] at hf2
        have := ((h.facts k2 h2 (hls k2 (fun e => hne (e1.trans e)) hl2)).2 f' hf2).2
        have := (hSj f' hf1).1
        omega
      · rw [if_neg e1] at hf1
        have hk1 := hls k1 (Ne.symm e1) hl1
        by_cases e2 : k2 = j
        · rw [if_pos e2] at hf2
          have := ((h.facts k1 h1 hk1).2 f' hf1).2
          have := (hSj f' hf2).1
          omega
        · rw [if_neg e2] at hf2
          exact h.apart k1 k2 h1 h2 hk1 (hls k2 (Ne.symm e2) hl2) hne f' hf1 hf2
end

/-- an operation waits for another one -/
def waitsOn (o : Oper) (j : Nat) : Bool := o.after.any fun e => Region.binds .any e && e.on == j

theorem wp_region_facts {P : Program} {Q : Exit → Act → World → Prop} {id : Nat} {a0 : Act} {w : World} {l : List Oper} (n : Nat) (φ : Nat → Value → List Nat → World → Prop) (hm : P.follows .mixedOrders = true) (hB : factsB l.toArray n = true)
    (N : Nat) (hN : a0.tmps.size = N) (hD : ((List.range n).all fun i => decide (dstOf l.toArray i < N)) = true)
    (stab : ∀ i v S w w', i < n → φ i v S w → Below w.heap.size w w' → φ i v S w')
    (hop : ∀ i o, i < n → l[i]? = some o → ∀ a w', Below w.heap.size w w' → (∀ s, (∀ i, i < n → dstOf l.toArray i ≠ s) → a.tmps.getD s undef = a0.tmps.getD s undef) → (∀ j, waitsOn o j = true → ∃ S, φ j (a.tmps.getD (dstOf l.toArray j) undef) S w') → o.wp P a w' (fun a' w'' => ∃ v, a' = a.put o.dst v ∧ Below w'.heap.size w' w'' ∧ ∃ S, φ i v S w'' ∧ ∀ f ∈ S, w'.heap.size ≤ f ∧ f < w''.heap.size) Q)
    (hend : ∀ (vals : Nat → Value) (S : Nat → List Nat) w', Below w.heap.size w w' → (∀ i, i < n → φ i (vals i) (S i) w' ∧ ∀ f ∈ S i, w.heap.size ≤ f ∧ f < w'.heap.size) → (∀ i j, i < n → j < n → i ≠ j → ∀ f ∈ S i, f ∉ S j) → wpList P l.toArray Q (l.drop n) (putN l.toArray a0 vals n) w') : (Code.region id l.toArray true).wp P Q a0 w := by
  have hf := factsOk_of hB
  have hsz : ∀ i, i < n → dstOf l.toArray i < a0.tmps.size := fun i hi => by
    have := List.all_eq_true.1 hD i (by simpa using hi)
    rw [hN]; simpa using this
  have hd : Below w.heap.size w w.drew := (Below.refl w.heap.size w).drew
  refine wp_region_any hm ?_
  have inv0 : HeadInv .any l.toArray n (Array.replicate l.toArray.size false) :=
    ⟨by simp, fun j oj _ hl => (by rw [getD_replicate_false] at hl; cases hl), fun t _ ht => getD_in (by simpa using ht) (getD_replicate_false _ _)⟩
  have := facts_any (P := P) (Q := Q) (φ := φ) (w0 := w) hf hsz stab (fun i o hi ho a w' hb hfr hdep => hop i o hi (by simpa using ho) a w' hb hfr.same fun j hj => by
    unfold waitsOn at hj
    obtain ⟨q, hq, he⟩ := Array.any_eq_true.1 hj
    simp only [Bool.and_eq_true, beq_iff_eq] at he
    rw [← he.2]
    exact hdep _ (Array.getElem_mem hq) he.1) l rfl hend n (fun _ => []) (Array.replicate l.toArray.size false) a0 w.drew ⟨inv0, hd, ⟨rfl, rfl, fun _ _ => rfl⟩, fun i _ hl => (by rw [getD_replicate_false] at hl; cases hl), fun i j _ _ hl => (by rw [getD_replicate_false] at hl; cases hl)⟩ (by simp [Array.count_replicate])
  rw [show n + (l.toArray.size - n) = l.toArray.size by have := hf.lt; omega] at this
  exact this

theorem fact_enter {P : Program} {o : Oper} {a : Act} {w : World} {φ : Value → World → Prop} {Q : Exit → Act → World → Prop} {f : FuncId} {args : Array Value} (h : (execOp a.eval o).run P w = .ok (.enter f args) w) (hc : Calls P f args w fun e w' => ∃ v, e = .returned v ∧ Below w.heap.size w w' ∧ φ v w') : o.wp P a w (fun a' w' => ∃ v, a' = a.put o.dst v ∧ Below w.heap.size w w' ∧ φ v w') Q := by
  unfold Oper.wp
  rw [h]
  simp only [Oper.upon]
  exact hc.mono (by rintro e w' ⟨v, rfl, hk⟩; exact ⟨v, rfl, hk⟩)
theorem fact_call {P : Program} {o : Oper} {a : Act} {w : World} {φ : Value → World → Prop} {Q : Exit → Act → World → Prop} {f : FuncId} {fn : Func} {xs : Array Operand} {ats : Array TypeId} {args : Array Value} (hop : o.op = .call { callee := .value (.func f), args := xs, argTypes := ats }) (hf : P.funcs[f]? = some fn) (hname : (fn.name == "runtime.NumGoroutine") = false) (hb : fn.body.isSome = true)
    (hargs : xs.map a.eval = args) (hc : Calls P f args w fun e w' => ∃ v, e = .returned v ∧ Below w.heap.size w w' ∧ φ v w') : o.wp P a w (fun a' w' => ∃ v, a' = a.put o.dst v ∧ Below w.heap.size w w' ∧ φ v w') Q := by
  obtain ⟨c, hb⟩ := Option.isSome_iff_exists.1 hb
  have h1 : fn.name ≠ "runtime.NumGoroutine" := by simpa using hname
  have ef : a.eval (.func f) = .func (.func f) #[] #[] := rfl
  refine fact_enter ?_ hc
  unfold execOp
  simp [hop, resolve, Deferred.ofValue, invoke, ef, hargs, callFunc, hf, h1, hb]
theorem fact_value {P : Program} {o : Oper} {a : Act} {w w' : World} {φ : Value → World → Prop} {Q : Exit → Act → World → Prop} {v : Value} (h : (execOp a.eval o).run P w = .ok (.value v) w') (hb : Below w.heap.size w w') (hk : φ v w') : o.wp P a w (fun a' w' => ∃ v, a' = a.put o.dst v ∧ Below w.heap.size w w' ∧ φ v w') Q := by
  unfold Oper.wp
  rw [h]
  exact ⟨v, rfl, hb, hk⟩
end Go.Proofs.YtmhmlkdoaojimapDoor
