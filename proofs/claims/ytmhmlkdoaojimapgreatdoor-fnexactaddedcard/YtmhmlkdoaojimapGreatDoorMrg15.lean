/- Four texts in one. -/
import Derived.Test.YtmhmlkdoaojimapGreatDoorMrg14
import Derived.WalkKit
import Derived.StillTail
/- What copyOf leaves, told from an earlier world. -/
namespace Go.Proofs.YtmhmlkdoaojimapGreatDoor
open Go.RowKit

theorem KPost.base {T0 : Nat} {D0 : List Nat} {osl : Value} {gc m : Nat} {t : Tm} {F : List Nat} {w u w' : World} {e : Ending} (hb : Below w.heap.size w u) (h : KPost T0 D0 osl gc m t F u e w') : KPost T0 D0 osl gc m t F w e w' := by
  obtain ⟨v', F', T1, D1, osl', h1, h2, h3, h4, h5, h6, h7, h8, h9⟩ := h
  have hs := hb.size
  exact ⟨v', F', T1, D1, osl', h1, h2, fun f hf => ⟨by have := (h3 f hf).1; omega, (h3 f hf).2⟩, h4, (Out.of_below hb).trans h5, h6, h7, fun d hd => (h8 d hd).imp id fun h => h.imp id fun h => by omega, fun z hz => (h9 z hz).imp id fun h => by omega⟩
end Go.Proofs.YtmhmlkdoaojimapGreatDoor

/- A region that draws its order and makes memory: each of its first operations is shown once, over all worlds that are as the first one was below its end, with what it leaves behind for the others; what is so stays so; then the rest of the region in its own order. -/
namespace Go.Proofs.YtmhmlkdoaojimapGreatDoor
open Go.RowKit

def dstOf (ops : Array Oper) (i : Nat) : Nat := ((ops[i]?).bind (·.dst)).getD 0

def firstN (m n : Nat) : Array Bool := Array.ofFn (n := m) fun i => decide (i.val < n)

/-- the look at a region's text -/
def factsB (ops : Array Oper) (n : Nat) : Bool :=
  decide (n < ops.size) && Region.sinkB .any ops n && Region.chainB .any ops n && Region.seqB .any ops (ops.size - n) n (firstN ops.size n) &&
  (List.range n).all (fun i => match ops[i]? with | some o => o.guard.isNone && o.dst.isSome && o.after.all (fun e => !Region.binds .any e || decide (e.on < i)) && ((List.range i).all fun j => dstOf ops j != dstOf ops i) | none => false)

structure FrameAt (ops : Array Oper) (n : Nat) (a0 a : Act) : Prop where
  size : a.tmps.size = a0.tmps.size
  defers : a.defers = a0.defers
  same : ∀ s, (∀ i, i < n → dstOf ops i ≠ s) → a.tmps.getD s undef = a0.tmps.getD s undef

def putN (ops : Array Oper) (a0 : Act) (vals : Nat → Value) : Nat → Act
  | 0 => a0
  | k + 1 => (putN ops a0 vals k).put ((ops[k]?).bind (·.dst)) (vals k)

section
variable {P : Program} {ops : Array Oper} {Q : Exit → Act → World → Prop} {n : Nat}

theorem put_getD {a : Act} {d s : Nat} {v : Value} (hd : d < a.tmps.size) : (a.put (some d) v).tmps.getD s undef = if d = s then v else a.tmps.getD s undef := by
  unfold Act.put
  by_cases h : d = s
  · subst h; simp [hd]
  · simp [h, Array.getElem?_setIfInBounds_ne h]
theorem put_size {a : Act} {d : Nat} {v : Value} : (a.put (some d) v).tmps.size = a.tmps.size := by unfold Act.put; simp
theorem put_defers {a : Act} {d : Nat} {v : Value} : (a.put (some d) v).defers = a.defers := by unfold Act.put; rfl

structure FactsOk (ops : Array Oper) (n : Nat) : Prop where
  lt : n < ops.size
  sink : Region.sinkB .any ops n = true
  chain : Region.chainB .any ops n = true
  seq : Region.seqB .any ops (ops.size - n) n (firstN ops.size n) = true
  ops : ∀ i, i < n → ∃ o d, ops[i]? = some o ∧ o.guard = none ∧ o.dst = some d ∧ dstOf ops i = d ∧ (∀ e ∈ o.after, Region.binds .any e = true → e.on < i) ∧ ∀ j, j < i → dstOf ops j ≠ d

theorem factsOk_of (h : factsB ops n = true) : FactsOk ops n := by
  unfold factsB at h
  simp only [Bool.and_eq_true, decide_eq_true_eq] at h
  obtain ⟨⟨⟨⟨h1, h2⟩, h3⟩, h4⟩, h5⟩ := h
  refine ⟨h1, h2, h3, h4, fun i hi => ?_⟩
  have h6 := List.all_eq_true.1 h5 i (by simpa using hi)
  cases ho : ops[i]? with
  | none => rw [ho] at h6; cases h6
  | some o =>
    rw [ho] at h6
    simp only [Bool.and_eq_true] at h6
    obtain ⟨⟨⟨h7, h8⟩, h9⟩, h10⟩ := h6
    obtain ⟨d, hd⟩ := Option.isSome_iff_exists.1 h8
    have hdd : dstOf ops i = d := by unfold dstOf; rw [ho]; simp [hd]
    refine ⟨o, d, rfl, by simpa using h7, hd, hdd, fun e he hb => ?_, fun j hj => ?_⟩
    · obtain ⟨q, hq, rfl⟩ := Array.mem_iff_getElem.1 he
      have := Array.all_eq_true.1 h9 q hq
      rw [hb] at this
      simpa using this
    · have := List.all_eq_true.1 h10 j (by simpa using hj)
      rw [hdd] at this
      simpa using this

theorem putN_at (hf : FactsOk ops n) {a0 : Act} (hsz : ∀ i, i < n → dstOf ops i < a0.tmps.size) (vals : Nat → Value) : ∀ k, k ≤ n →
    (putN ops a0 vals k).tmps.size = a0.tmps.size ∧ (putN ops a0 vals k).defers = a0.defers ∧ (∀ i, i < k → (putN ops a0 vals k).tmps.getD (dstOf ops i) undef = vals i) ∧ ∀ s, (∀ i, i < k → dstOf ops i ≠ s) → (putN ops a0 vals k).tmps.getD s undef = a0.tmps.getD s undef
  | 0, _ => ⟨rfl, rfl, fun i hi => absurd hi (Nat.not_lt_zero _), fun _ _ => rfl⟩
  | k + 1, hk => by
    obtain ⟨h1, h2, h3, h4⟩ := putN_at hf hsz vals k (by omega)
    obtain ⟨o, d, ho, _, hd, hdd, _, hne⟩ := hf.ops k (by omega)
    have hlt := hsz k (by omega)
    rw [hdd] at hlt
    have e : putN ops a0 vals (k + 1) = (putN ops a0 vals k).put (some d) (vals k) := by
      show (putN ops a0 vals k).put ((ops[k]?).bind (·.dst)) (vals k) = _
      rw [ho]; simp [hd]
    rw [e]
    refine ⟨by rw [put_size]; exact h1, by rw [put_defers]; exact h2, fun i hi => ?_, fun s hs => ?_⟩
    · rw [put_getD (by omega)]
      by_cases hik : i = k
      · subst hik; rw [if_pos hdd.symm]
      · rw [if_neg (fun e => hne i (by omega) e.symm)]
        exact h3 i (by omega)
    · rw [put_getD (by omega), if_neg (fun e => hs k (by omega) (by rw [hdd]; exact e))]
      exact h4 s fun i hi => hs i (by omega)

theorem frame_putN (hf : FactsOk ops n) {a0 a : Act} (hsz : ∀ i, i < n → dstOf ops i < a0.tmps.size) (h : FrameAt ops n a0 a) : a = putN ops a0 (fun i => a.tmps.getD (dstOf ops i) undef) n := by
  obtain ⟨h1, h2, h3, h4⟩ := putN_at hf hsz (fun i => a.tmps.getD (dstOf ops i) undef) n (Nat.le_refl _)
  generalize putN ops a0 (fun i => a.tmps.getD (dstOf ops i) undef) n = b at *
  have hg : ∀ s, a.tmps.getD s undef = b.tmps.getD s undef := fun s => by
    by_cases hs : ∃ i, i < n ∧ dstOf ops i = s
    · obtain ⟨i, hi, rfl⟩ := hs
      exact (h3 i hi).symm
    · have hs' : ∀ i, i < n → dstOf ops i ≠ s := fun i hi e => hs ⟨i, hi, e⟩
      rw [h.same s hs', h4 s hs']
  obtain ⟨at', ad⟩ := a
  obtain ⟨bt, bd⟩ := b
  have e2 : ad = bd := h.defers.trans h2.symm
  have e1 : at' = bt := by
    apply Array.ext
    · exact h.size.trans h1.symm
    · intro i hi1 hi2
      have := hg i
      simpa [Array.getD, hi1, hi2] using this
  subst e1 e2
  rfl

/-- what stands when the operations that are listed have come up -/
structure FInv (ops : Array Oper) (n : Nat) (φ : Nat → Value → List Nat → World → Prop) (a0 : Act) (w0 : World) (S : Nat → List Nat) (listed : Array Bool) (a : Act) (w : World) : Prop where
  head : HeadInv .any ops n listed
  later : Below w0.heap.size w0 w
  frame : FrameAt ops n a0 a
  facts : ∀ i, i < n → listed.getD i false = true → φ i (a.tmps.getD (dstOf ops i) undef) (S i) w ∧ ∀ f ∈ S i, w0.heap.size ≤ f ∧ f < w.heap.size
  apart : ∀ i j, i < n → j < n → listed.getD i false = true → listed.getD j false = true → i ≠ j → ∀ f ∈ S i, f ∉ S j

theorem count_set {listed : Array Bool} {i : Nat} (h : listed.getD i true = false) : (listed.setIfInBounds i true).count true = listed.count true + 1 := by
  have hlt : i < listed.size := by
    rcases Nat.lt_or_ge i listed.size with h' | h'
    · exact h'
    · simp [Array.getElem?_eq_none h'] at h
  have hf : listed[i] = false := by simpa [hlt] using h
  rw [Array.setIfInBounds, dif_pos hlt, Array.count_set hlt]
  simp [hf]

theorem facts_any {φ : Nat → Value → List Nat → World → Prop} {a0 : Act} {w0 : World} (hf : FactsOk ops n) (hsz : ∀ i, i < n → dstOf ops i < a0.tmps.size)
    (stab : ∀ i v S w w', i < n → φ i v S w → Below w.heap.size w w' → φ i v S w')
    (hop : ∀ i o, i < n → ops[i]? = some o → ∀ a w, Below w0.heap.size w0 w → FrameAt ops n a0 a → (∀ e ∈ o.after, Region.binds .any e = true → ∃ S, φ e.on (a.tmps.getD (dstOf ops e.on) undef) S w) → o.wp P a w (fun a' w' => ∃ v, a' = a.put o.dst v ∧ Below w.heap.size w w' ∧ ∃ S, φ i v S w' ∧ ∀ f ∈ S, w.heap.size ≤ f ∧ f < w'.heap.size) Q)
    (l : List Oper) (hl : ops = l.toArray)
    (hend : ∀ (vals : Nat → Value) (S : Nat → List Nat) w, Below w0.heap.size w0 w → (∀ i, i < n → φ i (vals i) (S i) w ∧ ∀ f ∈ S i, w0.heap.size ≤ f ∧ f < w.heap.size) → (∀ i j, i < n → j < n → i ≠ j → ∀ f ∈ S i, f ∉ S j) → wpList P ops Q (l.drop n) (putN ops a0 vals n) w) :
    ∀ (f : Nat) (S : Nat → List Nat) (listed : Array Bool) (a : Act) (w : World), FInv ops n φ a0 w0 S listed a w → listed.count true + f = n → wpAny P .any ops Q (f + (ops.size - n)) listed a w
  | 0, S, listed, a, w, h, hc => by
    have hlen : (l.drop n).length = ops.size - n := by rw [hl]; simp
    have hall : ∀ i, i < n → listed.getD i false = true := by
      intro i hi
      cases hq : listed.getD i false with
      | true => rfl
      | false =>
        exfalso
        have hlt : i < listed.size := by rw [h.head.size]; have := hf.lt; omega
        have h1 := count_set (getD_in hlt hq)
        have h2 : (listed.setIfInBounds i true).count true ≤ n := by
          have h3 : ∀ t, n ≤ t → t < ops.size → (listed.setIfInBounds i true).getD t true = false := fun t ht ht' => by rw [getD_set_ne true (by omega)]; exact h.head.tail t ht ht'
          have hsz2 : (listed.setIfInBounds i true).size = ops.size := by simp [h.head.size]
          generalize listed.setIfInBounds i true = L at *
          have e : L.toList = L.toList.take n ++ L.toList.drop n := (List.take_append_drop n _).symm
          rw [← Array.count_toList, e, List.count_append]
          have z : (L.toList.drop n).count true = 0 := by
            rw [List.count_eq_zero]
            intro hm
            obtain ⟨q, hq1, hq2⟩ := List.getElem_of_mem hm
            rw [List.length_drop, Array.length_toList] at hq1
            rw [List.getElem_drop] at hq2
            have := h3 (n + q) (by omega) (by omega)
            have hlt2 : n + q < L.size := by omega
            simp [hlt2] at this
            simp at hq2
            rw [hq2] at this
            cases this
          have z2 := List.count_le_length (a := true) (l := L.toList.take n)
          rw [List.length_take] at z2
          omega
        omega
    have hlst : listed = firstN ops.size n := by
      apply Array.ext
      · rw [h.head.size]; simp [firstN]
      · intro i h1 h2
        simp only [firstN, Array.getElem_ofFn]
        by_cases hi : i < n
        · have := hall i hi
          simpa [h1, hi] using this
        · have := h.head.tail i (by omega) (by rw [← h.head.size]; exact h1)
          simpa [h1, hi] using this
    have hw : wpList P ops Q (l.drop n) a w := by
      rw [frame_putN hf hsz h.frame]
      exact hend _ S w h.later (fun i hi => h.facts i hi (hall i hi)) fun i j hi hj hne => h.apart i j hi hj (hall i hi) (hall j hj) hne
    have := wpAny_of_seq (md := .any) (Q' := Q) (l.drop n) n listed a w (fun j => by rw [hl]; simp [List.getElem?_drop]) (by rw [hlen, hlst]; exact hf.seq) hw
    rw [hlen] at this
    rw [Nat.zero_add]
    exact this
  | f + 1, S, listed, a, w, h, hc => by
    rw [show f + 1 + (ops.size - n) = (f + (ops.size - n)) + 1 by omega]
    -- the first that has not come up
    obtain ⟨i, hin, hiu⟩ : ∃ i, i < n ∧ listed.getD i true = false := by
      refine Classical.byContradiction fun hno => ?_
      have hall : ∀ i, i < n → listed.getD i false = true := fun i hi => by
        cases hq : listed.getD i false with
        | true => rfl
        | false => exact absurd ⟨i, hi, getD_in (by rw [h.head.size]; have := hf.lt; omega) hq⟩ hno
      have : n ≤ listed.count true := by
        have e : listed.toList = listed.toList.take n ++ listed.toList.drop n := (List.take_append_drop n _).symm
        rw [← Array.count_toList, e, List.count_append]
        have z : (listed.toList.take n).count true = (listed.toList.take n).length := by
          rw [List.count_eq_length]
          intro b hb
          obtain ⟨q, hq1, hq2⟩ := List.getElem_of_mem hb
          rw [List.length_take, Array.length_toList] at hq1
          rw [List.getElem_take] at hq2
          have := hall q (by omega)
          have hlt2 : q < listed.size := by omega
          simp [hlt2] at this
          simp at hq2
          rw [← hq2, this]
        rw [z, List.length_take, Array.length_toList, h.head.size]
        have := hf.lt
        omega
      omega
    have hleast : ∃ i, i < n ∧ listed.getD i true = false ∧ ∀ j, j < i → listed.getD j false = true := by
      induction i using Nat.strongRecOn with
      | ind i ih =>
        by_cases hj : ∃ j, j < i ∧ listed.getD j false = false
        · obtain ⟨j, hj1, hj2⟩ := hj
          exact ih j hj1 (by omega) (getD_in (by rw [h.head.size]; have := hf.lt; omega) hj2)
        · refine ⟨i, hin, hiu, fun j hji => ?_⟩
          cases hq : listed.getD j false with
          | true => rfl
          | false => exact absurd ⟨j, hji, hq⟩ hj
    obtain ⟨i0, h01, h02, h03⟩ := hleast
    obtain ⟨o0, d0, ho0, _, _, _, haf0, _⟩ := hf.ops i0 h01
    have hr0 : i0 ∈ Region.ready .any ops listed := mem_ready.2 ⟨h02, o0, ho0, fun e he hb => h03 e.on (haf0 e he hb)⟩
    refine ⟨fun hn => (by rw [hn] at hr0; cases hr0), fun j hj => ?_⟩
    have hjn : j < n := Nat.lt_of_not_le fun hh => tail_waits hf.sink hf.chain hf.lt h.head _ i0 rfl h01 h02 j hh hj
    obtain ⟨hju, oj', hoj', hjall⟩ := mem_ready.1 hj
    obtain ⟨oj, d, hoj, hg, hd, hdd, haf, _⟩ := hf.ops j hjn
    obtain rfl : oj' = oj := Option.some.inj (hoj'.symm.trans hoj)
    have hstep := hop j oj' hjn hoj a w h.later h.frame (fun e he hb => ⟨_, (h.facts e.on (Nat.lt_trans (haf e he hb) hjn) (hjall e he hb)).1⟩)
    unfold wpOp
    rw [hoj]
    simp only [Region.wanted, hg, if_true]
    refine Or.inl (Oper.wp_mono ?_ hstep)
    rintro a' w' ⟨v, rfl, hb, Sj, hφ, hSj⟩
    rw [hd]
    have hdlt : d < a.tmps.size := by rw [h.frame.size, ← hdd]; exact hsz j hjn
    have hls : ∀ k, j ≠ k → (listed.setIfInBounds j true).getD k false = true → listed.getD k false = true := fun k hk hl => by rwa [getD_set_ne false hk] at hl
    refine facts_any hf hsz stab hop l hl hend f (fun k => if k = j then Sj else S k) _ _ _ ⟨h.head.set hj hjn, h.later.trans (hb.mono h.later.size), ⟨by rw [put_size]; exact h.frame.size, by rw [put_defers]; exact h.frame.defers, fun s hs => ?_⟩, fun k hk hkl => ?_, fun k1 k2 h1 h2 hl1 hl2 hne f' hf1 hf2 => ?_⟩ (by rw [count_set hju]; omega)
    · rw [put_getD hdlt, if_neg (fun e => hs j hjn (by rw [hdd]; exact e))]
      exact h.frame.same s hs
    · by_cases hjk : j = k
      · subst hjk
        rw [put_getD hdlt, if_pos hdd.symm, if_pos rfl]
        exact ⟨hφ, fun f' hf' => ⟨Nat.le_trans h.later.size (hSj f' hf').1, (hSj f' hf').2⟩⟩
      · have hne : d ≠ dstOf ops k := by
          rcases Nat.lt_or_gt_of_ne hjk with hlt | hgt
          · obtain ⟨_, dk, _, _, _, hdk, _, hne⟩ := hf.ops k hk
            intro e
            exact hne j hlt (by rw [hdd, e, hdk])
          · obtain ⟨_, dj, _, _, hdj, hdj2, _, hne⟩ := hf.ops j hjn
            intro e
            exact hne k hgt (by rw [← e, ← hdd, hdj2])
        rw [put_getD hdlt, if_neg hne, if_neg (Ne.symm hjk)]
        obtain ⟨q1, q2⟩ := h.facts k hk (hls k hjk hkl)
        exact ⟨stab k _ _ _ _ hk q1 hb, fun f' hf' => ⟨(q2 f' hf').1, Nat.lt_of_lt_of_le (q2 f' hf').2 hb.size⟩⟩
    · by_cases e1 : k1 = j
      · rw [if_pos e1] at hf1
        rw [if_neg (fun e2 => hne (e1.trans e2.symm))] at hf2
        have := ((h.facts k2 h2 (hls k2 (fun e => hne (e1.trans e)) hl2)).2 f' hf2).2
        have := (hSj f' hf1).1
        omega
      · rw [if_neg e1] at hf1
        have hk1 := hls k1 (Ne.symm e1) hl1
        by_cases e2 : k2 = j
        · rw [if_pos e2] at hf2
          have := ((h.facts k1 h1 hk1).2 f' hf1).2
          have := (hSj f' hf2).1
          omega
        · rw [if_neg e2] at hf2
          exact h.apart k1 k2 h1 h2 hk1 (hls k2 (Ne.symm e2) hl2) hne f' hf1 hf2
end

/-- an operation waits for another one -/
def waitsOn (o : Oper) (j : Nat) : Bool := o.after.any fun e => Region.binds .any e && e.on == j

theorem wp_region_facts {P : Program} {Q : Exit → Act → World → Prop} {id : Nat} {a0 : Act} {w : World} {l : List Oper} (n : Nat) (φ : Nat → Value → List Nat → World → Prop) (hm : P.follows .mixedOrders = true) (hB : factsB l.toArray n = true)
    (N : Nat) (hN : a0.tmps.size = N) (hD : ((List.range n).all fun i => decide (dstOf l.toArray i < N)) = true)
    (stab : ∀ i v S w w', i < n → φ i v S w → Below w.heap.size w w' → φ i v S w')
    (hop : ∀ i o, i < n → l[i]? = some o → ∀ a w', Below w.heap.size w w' → (∀ s, (∀ i, i < n → dstOf l.toArray i ≠ s) → a.tmps.getD s undef = a0.tmps.getD s undef) → (∀ j, waitsOn o j = true → ∃ S, φ j (a.tmps.getD (dstOf l.toArray j) undef) S w') → o.wp P a w' (fun a' w'' => ∃ v, a' = a.put o.dst v ∧ Below w'.heap.size w' w'' ∧ ∃ S, φ i v S w'' ∧ ∀ f ∈ S, w'.heap.size ≤ f ∧ f < w''.heap.size) Q)
    (hend : ∀ (vals : Nat → Value) (S : Nat → List Nat) w', Below w.heap.size w w' → (∀ i, i < n → φ i (vals i) (S i) w' ∧ ∀ f ∈ S i, w.heap.size ≤ f ∧ f < w'.heap.size) → (∀ i j, i < n → j < n → i ≠ j → ∀ f ∈ S i, f ∉ S j) → wpList P l.toArray Q (l.drop n) (putN l.toArray a0 vals n) w') : (Code.region id l.toArray true).wp P Q a0 w := by
  have hf := factsOk_of hB
  have hsz : ∀ i, i < n → dstOf l.toArray i < a0.tmps.size := fun i hi => by
    have := List.all_eq_true.1 hD i (by simpa using hi)
    rw [hN]; simpa using this
  have hd : Below w.heap.size w w.drew := (Below.refl w.heap.size w).drew
  refine wp_region_any hm ?_
  have inv0 : HeadInv .any l.toArray n (Array.replicate l.toArray.size false) :=
    ⟨by simp, fun j oj _ hl => (by rw [getD_replicate_false] at hl; cases hl), fun t _ ht => getD_in (by simpa using ht) (getD_replicate_false _ _)⟩
  have := facts_any (P := P) (Q := Q) (φ := φ) (w0 := w) hf hsz stab (fun i o hi ho a w' hb hfr hdep => hop i o hi (by simpa using ho) a w' hb hfr.same fun j hj => by
    unfold waitsOn at hj
    obtain ⟨q, hq, he⟩ := Array.any_eq_true.1 hj
    simp only [Bool.and_eq_true, beq_iff_eq] at he
    rw [← he.2]
    exact hdep _ (Array.getElem_mem hq) he.1) l rfl hend n (fun _ => []) (Array.replicate l.toArray.size false) a0 w.drew ⟨inv0, hd, ⟨rfl, rfl, fun _ _ => rfl⟩, fun i _ hl => (by rw [getD_replicate_false] at hl; cases hl), fun i j _ _ hl => (by rw [getD_replicate_false] at hl; cases hl)⟩ (by simp [Array.count_replicate])
  rw [show n + (l.toArray.size - n) = l.toArray.size by have := hf.lt; omega] at this
  exact this

theorem fact_enter {P : Program} {o : Oper} {a : Act} {w : World} {φ : Value → World → Prop} {Q : Exit → Act → World → Prop} {f : FuncId} {args : Array Value} (h : (execOp a.eval o).run P w = .ok (.enter f args) w) (hc : Calls P f args w fun e w' => ∃ v, e = .returned v ∧ Below w.heap.size w w' ∧ φ v w') : o.wp P a w (fun a' w' => ∃ v, a' = a.put o.dst v ∧ Below w.heap.size w w' ∧ φ v w') Q := by
  unfold Oper.wp
  rw [h]
  simp only [Oper.upon]
  exact hc.mono (by rintro e w' ⟨v, rfl, hk⟩; exact ⟨v, rfl, hk⟩)
theorem fact_call {P : Program} {o : Oper} {a : Act} {w : World} {φ : Value → World → Prop} {Q : Exit → Act → World → Prop} {f : FuncId} {fn : Func} {xs : Array Operand} {ats : Array TypeId} {args : Array Value} (hop : o.op = .call { callee := .value (.func f), args := xs, argTypes := ats }) (hf : P.funcs[f]? = some fn) (hname : (fn.name == "runtime.NumGoroutine") = false) (hb : fn.body.isSome = true)
    (hargs : xs.map a.eval = args) (hc : Calls P f args w fun e w' => ∃ v, e = .returned v ∧ Below w.heap.size w w' ∧ φ v w') : o.wp P a w (fun a' w' => ∃ v, a' = a.put o.dst v ∧ Below w.heap.size w w' ∧ φ v w') Q := by
  obtain ⟨c, hb⟩ := Option.isSome_iff_exists.1 hb
  have h1 : fn.name ≠ "runtime.NumGoroutine" := by simpa using hname
  have ef : a.eval (.func f) = .func (.func f) #[] #[] := rfl
  refine fact_enter ?_ hc
  unfold execOp
  simp [hop, resolve, Deferred.ofValue, invoke, ef, hargs, callFunc, hf, h1, hb]
theorem fact_value {P : Program} {o : Oper} {a : Act} {w w' : World} {φ : Value → World → Prop} {Q : Exit → Act → World → Prop} {v : Value} (h : (execOp a.eval o).run P w = .ok (.value v) w') (hb : Below w.heap.size w w') (hk : φ v w') : o.wp P a w (fun a' w' => ∃ v, a' = a.put o.dst v ∧ Below w.heap.size w w' ∧ φ v w') Q := by
  unfold Oper.wp
  rw [h]
  exact ⟨v, rfl, hb, hk⟩
end Go.Proofs.YtmhmlkdoaojimapGreatDoor

/- A region that draws its order, whatever its operations leave: each is shown once, over all worlds that it may meet. 'psi i': what operation i wants of the world, until it has come up; 'phi i': what it leaves, from then on; 'Rel i': what it may turn; both stay under what the others turn. -/
namespace Go.Proofs.YtmhmlkdoaojimapGreatDoor
open Go.RowKit
namespace FZ

def dst? (ops : Array Oper) (i : Nat) : Option Nat := (ops[i]?).bind (·.dst)
def valAt (ops : Array Oper) (a : Act) (i : Nat) : Value := match dst? ops i with | some d => a.tmps.getD d undef | none => undef

def factsB (ops : Array Oper) (n : Nat) : Bool :=
  decide (n ≤ ops.size) && (decide (n = ops.size) || Region.sinkB .any ops n) && Region.chainB .any ops n && Region.seqB .any ops (ops.size - n) n (firstN ops.size n) &&
  (List.range n).all (fun i => match ops[i]? with | some o => o.guard.isNone && o.after.all (fun e => !Region.binds .any e || decide (e.on < i)) && ((List.range i).all fun j => o.dst.isNone || dst? ops j != o.dst) | none => false)

structure FrameAt (ops : Array Oper) (n : Nat) (a0 a : Act) : Prop where
  size : a.tmps.size = a0.tmps.size
  defers : a.defers = a0.defers
  same : ∀ s, (∀ i, i < n → dst? ops i ≠ some s) → a.tmps.getD s undef = a0.tmps.getD s undef

def putN (ops : Array Oper) (a0 : Act) (vals : Nat → Value) : Nat → Act
  | 0 => a0
  | k + 1 => (putN ops a0 vals k).put ((ops[k]?).bind (·.dst)) (vals k)

section
variable {P : Program} {ops : Array Oper} {Q : Exit → Act → World → Prop} {n : Nat}

theorem put_get2 {a : Act} {o : Option Nat} {s : Nat} {v : Value} (hd : ∀ d, o = some d → d < a.tmps.size) : (a.put o v).tmps.getD s undef = if o = some s then v else a.tmps.getD s undef := by
  cases o with
  | none => simp [Act.put]
  | some d =>
    rw [put_getD (hd d rfl)]
    by_cases h : d = s
    · subst h; simp
    · rw [if_neg h, if_neg (fun e => h (Option.some.inj e))]
theorem put_size2 {a : Act} {o : Option Nat} {v : Value} : (a.put o v).tmps.size = a.tmps.size := by cases o <;> simp [Act.put]
theorem put_defers2 {a : Act} {o : Option Nat} {v : Value} : (a.put o v).defers = a.defers := by cases o <;> rfl

structure FactsOk (ops : Array Oper) (n : Nat) : Prop where
  lt : n ≤ ops.size
  sink : n < ops.size → Region.sinkB .any ops n = true
  chain : Region.chainB .any ops n = true
  seq : Region.seqB .any ops (ops.size - n) n (firstN ops.size n) = true
  ops : ∀ i, i < n → ∃ o, ops[i]? = some o ∧ o.guard = none ∧ dst? ops i = o.dst ∧ (∀ e ∈ o.after, Region.binds .any e = true → e.on < i) ∧ ∀ j, j < i → ∀ d, o.dst = some d → dst? ops j ≠ some d

theorem factsOk_of (h : factsB ops n = true) : FactsOk ops n := by
  unfold factsB at h
  simp only [Bool.and_eq_true, decide_eq_true_eq] at h
  obtain ⟨⟨⟨⟨h1, h2⟩, h3⟩, h4⟩, h5⟩ := h
  refine ⟨h1, fun hlt => (by rw [decide_eq_false (by omega), Bool.false_or] at h2; exact h2), h3, h4, fun i hi => ?_⟩
  have h6 := List.all_eq_true.1 h5 i (by simpa using hi)
  cases ho : ops[i]? with
  | none => rw [ho] at h6; cases h6
  | some o =>
    rw [ho] at h6
    simp only [Bool.and_eq_true] at h6
    obtain ⟨⟨h7, h9⟩, h10⟩ := h6
    refine ⟨o, rfl, by simpa using h7, by unfold dst?; rw [ho]; rfl, fun e he hb => ?_, fun j hj d hd => ?_⟩
    · obtain ⟨q, hq, rfl⟩ := Array.mem_iff_getElem.1 he
      have := Array.all_eq_true.1 h9 q hq
      rw [hb] at this
      simpa using this
    · have := List.all_eq_true.1 h10 j (by simpa using hj)
      rw [hd] at this
      simpa using this

theorem putN_at (hf : FactsOk ops n) {a0 : Act} (hsz : ∀ i d, i < n → dst? ops i = some d → d < a0.tmps.size) (vals : Nat → Value) : ∀ k, k ≤ n →
    (putN ops a0 vals k).tmps.size = a0.tmps.size ∧ (putN ops a0 vals k).defers = a0.defers ∧ (∀ i d, i < k → dst? ops i = some d → (putN ops a0 vals k).tmps.getD d undef = vals i) ∧ ∀ s, (∀ i, i < k → dst? ops i ≠ some s) → (putN ops a0 vals k).tmps.getD s undef = a0.tmps.getD s undef
  | 0, _ => ⟨rfl, rfl, fun i _ hi => absurd hi (Nat.not_lt_zero _), fun _ _ => rfl⟩
  | k + 1, hk => by
    obtain ⟨h1, h2, h3, h4⟩ := putN_at hf hsz vals k (by omega)
    obtain ⟨o, ho, _, hdd, _, hne⟩ := hf.ops k (by omega)
    have e : putN ops a0 vals (k + 1) = (putN ops a0 vals k).put o.dst (vals k) := by
      show (putN ops a0 vals k).put ((ops[k]?).bind (·.dst)) (vals k) = _
      rw [ho]; rfl
    have hb : ∀ d, o.dst = some d → d < (putN ops a0 vals k).tmps.size := fun d hd => by rw [h1]; exact hsz k d (by omega) (by rw [hdd]; exact hd)
    rw [e]
    refine ⟨by rw [put_size2]; exact h1, by rw [put_defers2]; exact h2, fun i d hi hd => ?_, fun s hs => ?_⟩
    · rw [put_get2 hb]
      by_cases hik : i = k
      · subst hik; rw [if_pos (by rw [← hdd]; exact hd)]
      · rw [if_neg (fun e => hne i (by omega) d e hd)]
        exact h3 i d (by omega) hd
    · rw [put_get2 hb, if_neg (fun e => hs k (by omega) (by rw [hdd]; exact e))]
      exact h4 s fun i hi => hs i (by omega)

theorem frame_putN (hf : FactsOk ops n) {a0 a : Act} (hsz : ∀ i d, i < n → dst? ops i = some d → d < a0.tmps.size) (h : FrameAt ops n a0 a) : a = putN ops a0 (valAt ops a) n := by
  obtain ⟨h1, h2, h3, h4⟩ := putN_at hf hsz (valAt ops a) n (Nat.le_refl _)
  have hv : ∀ i d, dst? ops i = some d → valAt ops a i = a.tmps.getD d undef := fun i d hd => by unfold valAt; rw [hd]
  generalize putN ops a0 (valAt ops a) n = b at *
  have hg : ∀ s, a.tmps.getD s undef = b.tmps.getD s undef := fun s => by
    by_cases hs : ∃ i, i < n ∧ dst? ops i = some s
    · obtain ⟨i, hi, hd⟩ := hs
      rw [h3 i s hi hd, hv i s hd]
    · have hs' : ∀ i, i < n → dst? ops i ≠ some s := fun i hi e => hs ⟨i, hi, e⟩
      rw [h.same s hs', h4 s hs']
  obtain ⟨at', ad⟩ := a
  obtain ⟨bt, bd⟩ := b
  have e2 : ad = bd := h.defers.trans h2.symm
  have e1 : at' = bt := by
    apply Array.ext
    · exact h.size.trans h1.symm
    · intro i hi1 hi2
      have := hg i
      simpa [Array.getD, hi1, hi2] using this
  subst e1 e2
  rfl

/-- what waits on nothing but what is in it -/
def Closed (ops : Array Oper) (L : Nat → Bool) : Prop := ∀ i o, ops[i]? = some o → L i = true → ∀ j, waitsOn o j = true → L j = true
theorem closed_of {listed : Array Bool} (h : HeadInv .any ops n listed) : Closed ops fun i => listed.getD i false := fun i o ho hi j hj => by
  unfold waitsOn at hj
  obtain ⟨q, hq, he⟩ := Array.any_eq_true.1 hj
  simp only [Bool.and_eq_true, beq_iff_eq] at he
  have := h.closed i o ho hi _ (Array.getElem_mem hq) he.1
  rw [he.2] at this
  exact this
/-- what stands when the operations that are listed have come up -/
structure FInv (ops : Array Oper) (n : Nat) (φ : Nat → Value → World → Prop) (ψ : Nat → World → Prop) (a0 : Act) (listed : Array Bool) (a : Act) (w : World) : Prop where
  head : HeadInv .any ops n listed
  frame : FrameAt ops n a0 a
  facts : ∀ i, i < n → listed.getD i false = true → φ i (valAt ops a i) w
  pre : ∀ i, i < n → listed.getD i false = false → ψ i w

theorem facts_any {φ : Nat → Value → World → Prop} {ψ : Nat → World → Prop} {Rel : Nat → World → World → Prop} {a0 : Act} (hf : FactsOk ops n) (hsz : ∀ i d, i < n → dst? ops i = some d → d < a0.tmps.size)
    (stab : ∀ i j w w', i < n → j < n → j ≠ i → Rel j w w' → ((∃ L, Closed ops L ∧ L i = false ∧ L j = true) → ψ i w → ψ i w') ∧ ((∃ L, Closed ops L ∧ L i = true ∧ L j = false) → ∀ v, φ i v w → φ i v w'))
    (hop : ∀ i o, i < n → ops[i]? = some o → ∀ a w, ψ i w → FrameAt ops n a0 a → (∀ e ∈ o.after, Region.binds .any e = true → φ e.on (valAt ops a e.on) w) → o.wp P a w (fun a' w' => ∃ v, a' = a.put o.dst v ∧ (o.dst = none → v = undef) ∧ Rel i w w' ∧ φ i v w') Q)
    (l : List Oper) (hl : ops = l.toArray)
    (hend : ∀ (vals : Nat → Value) w, (∀ i, i < n → φ i (vals i) w) → wpList P ops Q (l.drop n) (putN ops a0 vals n) w) :
    ∀ (f : Nat) (listed : Array Bool) (a : Act) (w : World), FInv ops n φ ψ a0 listed a w → listed.count true + f = n → wpAny P .any ops Q (f + (ops.size - n)) listed a w
  | 0, listed, a, w, h, hc => by
    have hlen : (l.drop n).length = ops.size - n := by rw [hl]; simp
    have hall : ∀ i, i < n → listed.getD i false = true := by
      intro i hi
      cases hq : listed.getD i false with
      | true => rfl
      | false =>
        exfalso
        have hlt : i < listed.size := by rw [h.head.size]; have := hf.lt; omega
        have h1 := count_set (getD_in hlt hq)
        have h2 : (listed.setIfInBounds i true).count true ≤ n := by
          have h3 : ∀ t, n ≤ t → t < ops.size → (listed.setIfInBounds i true).getD t true = false := fun t ht ht' => by rw [getD_set_ne true (by omega)]; exact h.head.tail t ht ht'
          have hsz2 : (listed.setIfInBounds i true).size = ops.size := by simp [h.head.size]
          generalize listed.setIfInBounds i true = L at *
          have e : L.toList = L.toList.take n ++ L.toList.drop n := (List.take_append_drop n _).symm
          rw [← Array.count_toList, e, List.count_append]
          have z : (L.toList.drop n).count true = 0 := by
            rw [List.count_eq_zero]
            intro hm
            obtain ⟨q, hq1, hq2⟩ := List.getElem_of_mem hm
            rw [List.length_drop, Array.length_toList] at hq1
            rw [List.getElem_drop] at hq2
            have := h3 (n + q) (by omega) (by omega)
            have hlt2 : n + q < L.size := by omega
            simp [hlt2] at this
            simp at hq2
            rw [hq2] at this
            cases this
          have z2 := List.count_le_length (a := true) (l := L.toList.take n)
          rw [List.length_take] at z2
          omega
        omega
    have hlst : listed = firstN ops.size n := by
      apply Array.ext
      · rw [h.head.size]; simp [firstN]
      · intro i h1 h2
        simp only [firstN, Array.getElem_ofFn]
        by_cases hi : i < n
        · have := hall i hi
          simpa [h1, hi] using this
        · have := h.head.tail i (by omega) (by rw [← h.head.size]; exact h1)
          simpa [h1, hi] using this
    have hw : wpList P ops Q (l.drop n) a w := by
      rw [frame_putN hf hsz h.frame]
      exact hend _ w (fun i hi => h.facts i hi (hall i hi))
    have := wpAny_of_seq (md := .any) (Q' := Q) (l.drop n) n listed a w (fun j => by rw [hl]; simp [List.getElem?_drop]) (by rw [hlen, hlst]; exact hf.seq) hw
    rw [hlen] at this
    rw [Nat.zero_add]
    exact this
  | f + 1, listed, a, w, h, hc => by
    rw [show f + 1 + (ops.size - n) = (f + (ops.size - n)) + 1 by omega]
    -- the first that has not come up
    obtain ⟨i, hin, hiu⟩ : ∃ i, i < n ∧ listed.getD i true = false := by
      refine Classical.byContradiction fun hno => ?_
      have hall : ∀ i, i < n → listed.getD i false = true := fun i hi => by
        cases hq : listed.getD i false with
        | true => rfl
        | false => exact absurd ⟨i, hi, getD_in (by rw [h.head.size]; have := hf.lt; omega) hq⟩ hno
      have : n ≤ listed.count true := by
        have e : listed.toList = listed.toList.take n ++ listed.toList.drop n := (List.take_append_drop n _).symm
        rw [← Array.count_toList, e, List.count_append]
        have z : (listed.toList.take n).count true = (listed.toList.take n).length := by
          rw [List.count_eq_length]
          intro b hb
          obtain ⟨q, hq1, hq2⟩ := List.getElem_of_mem hb
          rw [List.length_take, Array.length_toList] at hq1
          rw [List.getElem_take] at hq2
          have := hall q (by omega)
          have hlt2 : q < listed.size := by omega
          simp [hlt2] at this
          simp at hq2
          rw [← hq2, this]
        rw [z, List.length_take, Array.length_toList, h.head.size]
        have := hf.lt
        omega
      omega
    have hleast : ∃ i, i < n ∧ listed.getD i true = false ∧ ∀ j, j < i → listed.getD j false = true := by
      induction i using Nat.strongRecOn with
      | ind i ih =>
        by_cases hj : ∃ j, j < i ∧ listed.getD j false = false
        · obtain ⟨j, hj1, hj2⟩ := hj
          exact ih j hj1 (by omega) (getD_in (by rw [h.head.size]; have := hf.lt; omega) hj2)
        · refine ⟨i, hin, hiu, fun j hji => ?_⟩
          cases hq : listed.getD j false with
          | true => rfl
          | false => exact absurd ⟨j, hji, hq⟩ hj
    obtain ⟨i0, h01, h02, h03⟩ := hleast
    obtain ⟨o0, ho0, _, _, haf0, _⟩ := hf.ops i0 h01
    have hr0 : i0 ∈ Region.ready .any ops listed := mem_ready.2 ⟨h02, o0, ho0, fun e he hb => h03 e.on (haf0 e he hb)⟩
    refine ⟨fun hn => (by rw [hn] at hr0; cases hr0), fun j hj => ?_⟩
    have hjn : j < n := by
      rcases Nat.lt_or_ge n ops.size with hlt | hge
      · exact Nat.lt_of_not_le fun hh => tail_waits (hf.sink hlt) hf.chain hlt h.head _ i0 rfl h01 h02 j hh hj
      · obtain ⟨_, oj0, hoj0, _⟩ := mem_ready.1 hj
        have := (Array.getElem?_eq_some_iff.1 hoj0).1
        omega
    obtain ⟨hju, oj', hoj', hjall⟩ := mem_ready.1 hj
    obtain ⟨oj, hoj, hg, hdd, haf, hne0⟩ := hf.ops j hjn
    obtain rfl : oj' = oj := Option.some.inj (hoj'.symm.trans hoj)
    have hjf : listed.getD j false = false := by
      cases hq : listed.getD j false with
      | false => rfl
      | true =>
        exfalso
        have hlt : j < listed.size := by rw [h.head.size]; have := hf.lt; omega
        simp [hlt] at hq hju
        rw [hju] at hq; cases hq
    have hstep := hop j oj' hjn hoj a w (h.pre j hjn hjf) h.frame (fun e he hb => h.facts e.on (Nat.lt_trans (haf e he hb) hjn) (hjall e he hb))
    unfold wpOp
    rw [hoj]
    simp only [Region.wanted, hg, if_true]
    refine Or.inl (Oper.wp_mono ?_ hstep)
    rintro a' w' ⟨v, rfl, hvn, hb, hφ⟩
    have hdlt : ∀ d, oj'.dst = some d → d < a.tmps.size := fun d hd => by rw [h.frame.size]; exact hsz j d hjn (by rw [hdd]; exact hd)
    have hls : ∀ k, j ≠ k → (listed.setIfInBounds j true).getD k false = true → listed.getD k false = true := fun k hk hl => by rwa [getD_set_ne false hk] at hl
    have hvj : valAt ops (a.put oj'.dst v) j = v := by
      unfold valAt
      rw [hdd]
      cases hd : oj'.dst with
      | none => exact (hvn hd).symm
      | some d => show (a.put (some d) v).tmps.getD d undef = v; rw [put_get2 (by rw [← hd]; exact hdlt), if_pos rfl]
    have hvk : ∀ k, k < n → j ≠ k → valAt ops (a.put oj'.dst v) k = valAt ops a k := fun k hk hjk => by
      unfold valAt
      cases hdk : dst? ops k with
      | none => rfl
      | some d =>
        show (a.put oj'.dst v).tmps.getD d undef = a.tmps.getD d undef
        rw [put_get2 hdlt, if_neg]
        intro e
        rcases Nat.lt_or_gt_of_ne hjk with hlt | hgt
        · obtain ⟨ok, _, _, hdk2, _, hne⟩ := hf.ops k hk
          exact hne j hlt d (by rw [← hdk2]; exact hdk) (by rw [hdd]; exact e)
        · exact hne0 k hgt d e hdk
    refine facts_any hf hsz stab hop l hl hend f _ _ _ ⟨h.head.set hj hjn, ⟨by rw [put_size2]; exact h.frame.size, by rw [put_defers2]; exact h.frame.defers, fun s hs => ?_⟩, fun k hk hkl => ?_, fun k hk hkl => ?_⟩ (by rw [count_set hju]; omega)
    · rw [put_get2 hdlt, if_neg (fun e => hs j hjn (by rw [hdd]; exact e))]
      exact h.frame.same s hs
    · by_cases hjk : j = k
      · subst hjk
        rw [hvj]
        exact hφ
      · rw [hvk k hk hjk]
        exact (stab k j _ _ hk hjn hjk hb).2 ⟨_, closed_of h.head, hls k hjk hkl, hjf⟩ _ (h.facts k hk (hls k hjk hkl))
    · have hjk : j ≠ k := by
        rintro rfl
        have hlt : j < listed.size := by rw [h.head.size]; have := hf.lt; omega
        simp [hlt] at hkl
      exact (stab k j _ _ hk hjn hjk hb).1 ⟨_, closed_of (h.head.set hj hjn), hkl, by
        have hlt : j < listed.size := by rw [h.head.size]; have := hf.lt; omega
        simp [hlt]⟩ (h.pre k hk (by rwa [getD_set_ne false hjk] at hkl))
end

theorem wp_region_factsZ {P : Program} {Q : Exit → Act → World → Prop} {id : Nat} {a0 : Act} {w : World} {l : List Oper} (n : Nat) (φ : Nat → Value → World → Prop) (ψ : Nat → World → Prop) (Rel : Nat → World → World → Prop) (hm : P.follows .mixedOrders = true) (hB : factsB l.toArray n = true)
    (N : Nat) (hN : a0.tmps.size = N) (hD : ((List.range n).all fun i => match dst? l.toArray i with | some d => decide (d < N) | none => true) = true)
    (start : ∀ i, i < n → ψ i w.drew)
    (stab : ∀ i j w w', i < n → j < n → j ≠ i → Rel j w w' → ((∃ L, Closed l.toArray L ∧ L i = false ∧ L j = true) → ψ i w → ψ i w') ∧ ((∃ L, Closed l.toArray L ∧ L i = true ∧ L j = false) → ∀ v, φ i v w → φ i v w'))
    (hop : ∀ i o, i < n → l[i]? = some o → ∀ a w', ψ i w' → (∀ s, (∀ i, i < n → dst? l.toArray i ≠ some s) → a.tmps.getD s undef = a0.tmps.getD s undef) → (∀ j, waitsOn o j = true → φ j (valAt l.toArray a j) w') → a.defers = a0.defers → o.wp P a w' (fun a' w'' => ∃ v, a' = a.put o.dst v ∧ (o.dst = none → v = undef) ∧ Rel i w' w'' ∧ φ i v w'') Q)
    (hend : ∀ (vals : Nat → Value) w', (∀ i, i < n → φ i (vals i) w') → wpList P l.toArray Q (l.drop n) (putN l.toArray a0 vals n) w') : (Code.region id l.toArray true).wp P Q a0 w := by
  have hf := factsOk_of hB
  have hsz : ∀ i d, i < n → dst? l.toArray i = some d → d < a0.tmps.size := fun i d hi hd => by
    have := List.all_eq_true.1 hD i (by simpa using hi)
    rw [hd] at this
    rw [hN]; simpa using this
  refine wp_region_any hm ?_
  have inv0 : HeadInv .any l.toArray n (Array.replicate l.toArray.size false) :=
    ⟨by simp, fun j oj _ hl => (by rw [getD_replicate_false] at hl; cases hl), fun t _ ht => getD_in (by simpa using ht) (getD_replicate_false _ _)⟩
  have := facts_any (P := P) (Q := Q) (φ := φ) (ψ := ψ) (Rel := Rel) hf hsz stab (fun i o hi ho a w' hp hfr hdep => hop i o hi (by simpa using ho) a w' hp hfr.same (fun j hj => by
    unfold waitsOn at hj
    obtain ⟨q, hq, he⟩ := Array.any_eq_true.1 hj
    simp only [Bool.and_eq_true, beq_iff_eq] at he
    rw [← he.2]
    exact hdep _ (Array.getElem_mem hq) he.1) hfr.defers) l rfl hend n (Array.replicate l.toArray.size false) a0 w.drew ⟨inv0, ⟨rfl, rfl, fun _ _ => rfl⟩, fun i _ hl => (by rw [getD_replicate_false] at hl; cases hl), fun i hi _ => start i hi⟩ (by simp [Array.count_replicate])
  rw [show n + (l.toArray.size - n) = l.toArray.size by have := hf.lt; omega] at this
  exact this

theorem fact_valueZ {P : Program} {o : Oper} {a : Act} {w w' : World} {R : World → Prop} {φ : Value → World → Prop} {Q : Exit → Act → World → Prop} {v : Value} {d : Nat} (hd : o.dst = some d) (h : (execOp a.eval o).run P w = .ok (.value v) w') (hb : R w') (hk : φ v w') :
    o.wp P a w (fun a' w'' => ∃ v, a' = a.put o.dst v ∧ (o.dst = none → v = undef) ∧ R w'' ∧ φ v w'') Q := by
  unfold Oper.wp
  rw [h]
  exact ⟨v, rfl, fun h => (by rw [hd] at h; cases h), hb, hk⟩
theorem fact_storeZ {P : Program} {o : Oper} {a : Act} {w w' : World} {R : World → Prop} {φ : Value → World → Prop} {Q : Exit → Act → World → Prop} (hd : o.dst = none) (h : (execOp a.eval o).run P w = .ok .skip w') (hb : R w') (hk : φ undef w') :
    o.wp P a w (fun a' w'' => ∃ v, a' = a.put o.dst v ∧ (o.dst = none → v = undef) ∧ R w'' ∧ φ v w'') Q := by
  unfold Oper.wp
  rw [h]
  exact ⟨undef, by rw [hd], fun _ => rfl, hb, hk⟩
/-- a call: it returns, or it panics, and the region is left -/
theorem fact_callZ {P : Program} {o : Oper} {a : Act} {w : World} {R : World → Prop} {φ : Value → World → Prop} {Q : Exit → Act → World → Prop} {f : FuncId} {fn : Func} {xs : Array Operand} {ats : Array TypeId} {args : Array Value} {d : Nat} (hd : o.dst = some d) (hop : o.op = .call { callee := .value (.func f), args := xs, argTypes := ats }) (hf : P.funcs[f]? = some fn) (hname : (fn.name == "runtime.NumGoroutine") = false) (hb : fn.body.isSome = true)
    (hargs : xs.map a.eval = args) (hc : Calls P f args w fun e w' => (∃ v, e = .returned v ∧ R w' ∧ φ v w') ∨ ∃ c, e = .panicked c ∧ Q (.panic c) a w') : o.wp P a w (fun a' w' => ∃ v, a' = a.put o.dst v ∧ (o.dst = none → v = undef) ∧ R w' ∧ φ v w') Q := by
  obtain ⟨c, hb⟩ := Option.isSome_iff_exists.1 hb
  have h1 : fn.name ≠ "runtime.NumGoroutine" := by simpa using hname
  have ef : a.eval (.func f) = .func (.func f) #[] #[] := rfl
  have he : (execOp a.eval o).run P w = .ok (.enter f args) w := by
    unfold execOp
    simp [hop, resolve, Deferred.ofValue, invoke, ef, hargs, callFunc, hf, h1, hb]
  unfold Oper.wp
  rw [he]
  simp only [Oper.upon]
  refine hc.mono ?_
  rintro e w' (⟨v, rfl, h2, h3⟩ | ⟨c, rfl, h2⟩)
  · exact ⟨v, rfl, fun h => (by rw [hd] at h; cases h), h2, h3⟩
  · exact h2
end FZ
end Go.Proofs.YtmhmlkdoaojimapGreatDoor

/- A region that draws its order: one thing that stands, told by which operations have come up and what they left, is shown to stand behind each of them; then the rest of the region in its own order. -/
namespace Go.Proofs.YtmhmlkdoaojimapGreatDoor
open Go.RowKit
namespace FI

def upd {α : Type} (f : Nat → α) (i : Nat) (v : α) : Nat → α := fun k => if k = i then v else f k
def valsOf (ops : Array Oper) (n : Nat) (a : Act) : Nat → Value := fun k => if k < n then FZ.valAt ops a k else undef
section
variable {P : Program} {ops : Array Oper} {Q : Exit → Act → World → Prop} {n : Nat}
theorem putN_vals_le {a0 a : Act} : ∀ k, k ≤ n → FZ.putN ops a0 (valsOf ops n a) k = FZ.putN ops a0 (FZ.valAt ops a) k
  | 0, _ => rfl
  | k + 1, h => by
    show (FZ.putN ops a0 (valsOf ops n a) k).put _ _ = (FZ.putN ops a0 (FZ.valAt ops a) k).put _ _
    rw [putN_vals_le k (by omega)]
    congr 1
    exact if_pos (by omega)
theorem putN_vals {a0 a : Act} : FZ.putN ops a0 (valsOf ops n a) n = FZ.putN ops a0 (FZ.valAt ops a) n := putN_vals_le n (Nat.le_refl _)
/-- what stands when the operations that are listed have come up -/
structure GInv (ops : Array Oper) (n : Nat) (I : (Nat → Bool) → (Nat → Value) → World → Prop) (a0 : Act) (listed : Array Bool) (a : Act) (w : World) : Prop where
  head : HeadInv .any ops n listed
  frame : FZ.FrameAt ops n a0 a
  inv : I (fun k => listed.getD k false) (valsOf ops n a) w

theorem inv_any {I : (Nat → Bool) → (Nat → Value) → World → Prop} {a0 : Act} (hf : FZ.FactsOk ops n) (hsz : ∀ i d, i < n → FZ.dst? ops i = some d → d < a0.tmps.size)
    (hop : ∀ i o, i < n → ops[i]? = some o → ∀ (L : Nat → Bool) a w, I L (valsOf ops n a) w → FZ.Closed ops L → L i = false → FZ.FrameAt ops n a0 a → (∀ e ∈ o.after, Region.binds .any e = true → L e.on = true) → o.wp P a w (fun a' w' => ∃ v, a' = a.put o.dst v ∧ (o.dst = none → v = undef) ∧ I (upd L i true) (upd (valsOf ops n a) i v) w') Q)
    (l : List Oper) (hl : ops = l.toArray)
    (hend : ∀ (L : Nat → Bool) (vals : Nat → Value) w, (∀ i, i < n → L i = true) → I L vals w → wpList P ops Q (l.drop n) (FZ.putN ops a0 vals n) w) :
    ∀ (f : Nat) (listed : Array Bool) (a : Act) (w : World), GInv ops n I a0 listed a w → listed.count true + f = n → wpAny P .any ops Q (f + (ops.size - n)) listed a w
  | 0, listed, a, w, h, hc => by
    have hlen : (l.drop n).length = ops.size - n := by rw [hl]; simp
    have hall : ∀ i, i < n → listed.getD i false = true := by
      intro i hi
      cases hq : listed.getD i false with
      | true => rfl
      | false =>
        exfalso
        have hlt : i < listed.size := by rw [h.head.size]; have := hf.lt; omega
        have h1 := count_set (getD_in hlt hq)
        have h2 : (listed.setIfInBounds i true).count true ≤ n := by
          have h3 : ∀ t, n ≤ t → t < ops.size → (listed.setIfInBounds i true).getD t true = false := fun t ht ht' => by rw [getD_set_ne true (by omega)]; exact h.head.tail t ht ht'
          have hsz2 : (listed.setIfInBounds i true).size = ops.size := by simp [h.head.size]
          generalize listed.setIfInBounds i true = L at *
          have e : L.toList = L.toList.take n ++ L.toList.drop n := (List.take_append_drop n _).symm
          rw [← Array.count_toList, e, List.count_append]
          have z : (L.toList.drop n).count true = 0 := by
            rw [List.count_eq_zero]
            intro hm
            obtain ⟨q, hq1, hq2⟩ := List.getElem_of_mem hm
            rw [List.length_drop, Array.length_toList] at hq1
            rw [List.getElem_drop] at hq2
            have := h3 (n + q) (by omega) (by omega)
            have hlt2 : n + q < L.size := by omega
            simp [hlt2] at this
            simp at hq2
            rw [hq2] at this
            cases this
          have z2 := List.count_le_length (a := true) (l := L.toList.take n)
          rw [List.length_take] at z2
          omega
        omega
    have hlst : listed = firstN ops.size n := by
      apply Array.ext
      · rw [h.head.size]; simp [firstN]
      · intro i h1 h2
        simp only [firstN, Array.getElem_ofFn]
        by_cases hi : i < n
        · have := hall i hi
          simpa [h1, hi] using this
        · have := h.head.tail i (by omega) (by rw [← h.head.size]; exact h1)
          simpa [h1, hi] using this
    have hw : wpList P ops Q (l.drop n) a w := by
      rw [FZ.frame_putN hf hsz h.frame, ← putN_vals]
      exact hend _ _ w (fun i hi => hall i hi) h.inv
    have := wpAny_of_seq (md := .any) (Q' := Q) (l.drop n) n listed a w (fun j => by rw [hl]; simp [List.getElem?_drop]) (by rw [hlen, hlst]; exact hf.seq) hw
    rw [hlen] at this
    rw [Nat.zero_add]
    exact this
  | f + 1, listed, a, w, h, hc => by
    rw [show f + 1 + (ops.size - n) = (f + (ops.size - n)) + 1 by omega]
    -- the first that has not come up
    obtain ⟨i, hin, hiu⟩ : ∃ i, i < n ∧ listed.getD i true = false := by
      refine Classical.byContradiction fun hno => ?_
      have hall : ∀ i, i < n → listed.getD i false = true := fun i hi => by
        cases hq : listed.getD i false with
        | true => rfl
        | false => exact absurd ⟨i, hi, getD_in (by rw [h.head.size]; have := hf.lt; omega) hq⟩ hno
      have : n ≤ listed.count true := by
        have e : listed.toList = listed.toList.take n ++ listed.toList.drop n := (List.take_append_drop n _).symm
        rw [← Array.count_toList, e, List.count_append]
        have z : (listed.toList.take n).count true = (listed.toList.take n).length := by
          rw [List.count_eq_length]
          intro b hb
          obtain ⟨q, hq1, hq2⟩ := List.getElem_of_mem hb
          rw [List.length_take, Array.length_toList] at hq1
          rw [List.getElem_take] at hq2
          have := hall q (by omega)
          have hlt2 : q < listed.size := by omega
          simp [hlt2] at this
          simp at hq2
          rw [← hq2, this]
        rw [z, List.length_take, Array.length_toList, h.head.size]
        have := hf.lt
        omega
      omega
    have hleast : ∃ i, i < n ∧ listed.getD i true = false ∧ ∀ j, j < i → listed.getD j false = true := by
      induction i using Nat.strongRecOn with
      | ind i ih =>
        by_cases hj : ∃ j, j < i ∧ listed.getD j false = false
        · obtain ⟨j, hj1, hj2⟩ := hj
          exact ih j hj1 (by omega) (getD_in (by rw [h.head.size]; have := hf.lt; omega) hj2)
        · refine ⟨i, hin, hiu, fun j hji => ?_⟩
          cases hq : listed.getD j false with
          | true => rfl
          | false => exact absurd ⟨j, hji, hq⟩ hj
    obtain ⟨i0, h01, h02, h03⟩ := hleast
    obtain ⟨o0, ho0, _, _, haf0, _⟩ := hf.ops i0 h01
    have hr0 : i0 ∈ Region.ready .any ops listed := mem_ready.2 ⟨h02, o0, ho0, fun e he hb => h03 e.on (haf0 e he hb)⟩
    refine ⟨fun hn => (by rw [hn] at hr0; cases hr0), fun j hj => ?_⟩
    have hjn : j < n := by
      rcases Nat.lt_or_ge n ops.size with hlt | hge
      · exact Nat.lt_of_not_le fun hh => tail_waits (hf.sink hlt) hf.chain hlt h.head _ i0 rfl h01 h02 j hh hj
      · obtain ⟨_, oj0, hoj0, _⟩ := mem_ready.1 hj
        have := (Array.getElem?_eq_some_iff.1 hoj0).1
        omega
    obtain ⟨hju, oj', hoj', hjall⟩ := mem_ready.1 hj
    obtain ⟨oj, hoj, hg, hdd, haf, hne0⟩ := hf.ops j hjn
    obtain rfl : oj' = oj := Option.some.inj (hoj'.symm.trans hoj)
    have hjf : listed.getD j false = false := by
      cases hq : listed.getD j false with
      | false => rfl
      | true =>
        exfalso
        have hlt : j < listed.size := by rw [h.head.size]; have := hf.lt; omega
        simp [hlt] at hq hju
        rw [hju] at hq; cases hq
    have hstep := hop j oj' hjn hoj (fun k => listed.getD k false) a w h.inv (FZ.closed_of h.head) hjf h.frame (fun e he hb => hjall e he hb)
    unfold wpOp
    rw [hoj]
    simp only [Region.wanted, hg, if_true]
    refine Or.inl (Oper.wp_mono ?_ hstep)
    rintro a' w' ⟨v, rfl, hvn, hφ⟩
    have hdlt : ∀ d, oj'.dst = some d → d < a.tmps.size := fun d hd => by rw [h.frame.size]; exact hsz j d hjn (by rw [hdd]; exact hd)
    have hvj : FZ.valAt ops (a.put oj'.dst v) j = v := by
      unfold FZ.valAt
      rw [hdd]
      cases hd : oj'.dst with
      | none => exact (hvn hd).symm
      | some d => show (a.put (some d) v).tmps.getD d undef = v; rw [FZ.put_get2 (by rw [← hd]; exact hdlt), if_pos rfl]
    have hvk : ∀ k, k < n → j ≠ k → FZ.valAt ops (a.put oj'.dst v) k = FZ.valAt ops a k := fun k hk hjk => by
      unfold FZ.valAt
      cases hdk : FZ.dst? ops k with
      | none => rfl
      | some d =>
        show (a.put oj'.dst v).tmps.getD d undef = a.tmps.getD d undef
        rw [FZ.put_get2 hdlt, if_neg]
        intro e
        rcases Nat.lt_or_gt_of_ne hjk with hlt | hgt
        · obtain ⟨ok, _, _, hdk2, _, hne⟩ := hf.ops k hk
          exact hne j hlt d (by rw [← hdk2]; exact hdk) (by rw [hdd]; exact e)
        · exact hne0 k hgt d e hdk
    have e1 : (fun k => (listed.setIfInBounds j true).getD k false) = upd (fun k => listed.getD k false) j true := by
      funext k
      unfold upd
      by_cases hjk : k = j
      · subst hjk
        have hlt : k < listed.size := by rw [h.head.size]; have := hf.lt; omega
        simp [hlt]
      · rw [if_neg hjk]; exact getD_set_ne false (Ne.symm hjk)
    have e2 : valsOf ops n (a.put oj'.dst v) = upd (valsOf ops n a) j v := by
      funext k
      unfold upd valsOf
      by_cases hk : k < n
      · rw [if_pos hk, if_pos hk]
        by_cases hjk : k = j
        · subst hjk; rw [if_pos rfl]; exact hvj
        · rw [if_neg hjk]; exact hvk k hk (Ne.symm hjk)
      · rw [if_neg hk, if_neg hk, if_neg (by omega)]
    refine inv_any hf hsz hop l hl hend f _ _ _ ⟨h.head.set hj hjn, ⟨by rw [FZ.put_size2]; exact h.frame.size, by rw [FZ.put_defers2]; exact h.frame.defers, fun s hs => ?_⟩, by rw [e1, e2]; exact hφ⟩ (by rw [count_set hju]; omega)
    rw [FZ.put_get2 hdlt, if_neg (fun e => hs j hjn (by rw [hdd]; exact e))]
    exact h.frame.same s hs
end
theorem wp_region_inv {P : Program} {Q : Exit → Act → World → Prop} {id : Nat} {a0 : Act} {w : World} {l : List Oper} (n : Nat) (I : (Nat → Bool) → (Nat → Value) → World → Prop) (hm : P.follows .mixedOrders = true) (hB : FZ.factsB l.toArray n = true)
    (N : Nat) (hN : a0.tmps.size = N) (hD : ((List.range n).all fun i => match FZ.dst? l.toArray i with | some d => decide (d < N) | none => true) = true)
    (start : ∀ vals, I (fun _ => false) vals w.drew)
    (hop : ∀ i o, i < n → l[i]? = some o → ∀ (L : Nat → Bool) a w', I L (valsOf l.toArray n a) w' → FZ.Closed l.toArray L → L i = false → (∀ s, (∀ i, i < n → FZ.dst? l.toArray i ≠ some s) → a.tmps.getD s undef = a0.tmps.getD s undef) → (∀ j, waitsOn o j = true → L j = true) → o.wp P a w' (fun a' w'' => ∃ v, a' = a.put o.dst v ∧ (o.dst = none → v = undef) ∧ I (upd L i true) (upd (valsOf l.toArray n a) i v) w'') Q)
    (hend : ∀ (L : Nat → Bool) (vals : Nat → Value) w', (∀ i, i < n → L i = true) → I L vals w' → wpList P l.toArray Q (l.drop n) (FZ.putN l.toArray a0 vals n) w') : (Code.region id l.toArray true).wp P Q a0 w := by
  have hf := FZ.factsOk_of hB
  have hsz : ∀ i d, i < n → FZ.dst? l.toArray i = some d → d < a0.tmps.size := fun i d hi hd => by
    have := List.all_eq_true.1 hD i (by simpa using hi)
    rw [hd] at this
    rw [hN]; simpa using this
  refine wp_region_any hm ?_
  have inv0 : HeadInv .any l.toArray n (Array.replicate l.toArray.size false) :=
    ⟨by simp, fun j oj _ hl => (by rw [getD_replicate_false] at hl; cases hl), fun t _ ht => getD_in (by simpa using ht) (getD_replicate_false _ _)⟩
  have e0 : (fun k => (Array.replicate l.toArray.size false).getD k false) = fun _ => false := by funext k; exact getD_replicate_false _ _
  have := inv_any (P := P) (Q := Q) (I := I) hf hsz (fun i o hi ho L a w' hp hcl hli hfr hdep => hop i o hi (by simpa using ho) L a w' hp hcl hli hfr.same (fun j hj => by
    unfold waitsOn at hj
    obtain ⟨q, hq, he⟩ := Array.any_eq_true.1 hj
    simp only [Bool.and_eq_true, beq_iff_eq] at he
    rw [← he.2]
    exact hdep _ (Array.getElem_mem hq) he.1)) l rfl hend n (Array.replicate l.toArray.size false) a0 w.drew ⟨inv0, ⟨rfl, rfl, fun _ _ => rfl⟩, by rw [e0]; exact start _⟩ (by simp [Array.count_replicate])
  rw [show n + (l.toArray.size - n) = l.toArray.size by have := hf.lt; omega] at this
  exact this
theorem fact_value {P : Program} {o : Oper} {a : Act} {w w' : World} {φ : Value → World → Prop} {Q : Exit → Act → World → Prop} {v : Value} {d : Nat} (hd : o.dst = some d) (h : (execOp a.eval o).run P w = .ok (.value v) w') (hk : φ v w') :
    o.wp P a w (fun a' w'' => ∃ v, a' = a.put o.dst v ∧ (o.dst = none → v = undef) ∧ φ v w'') Q := by
  unfold Oper.wp
  rw [h]
  exact ⟨v, rfl, fun h => (by rw [hd] at h; cases h), hk⟩
theorem fact_call {P : Program} {o : Oper} {a : Act} {w : World} {φ : Value → World → Prop} {Q : Exit → Act → World → Prop} {f : FuncId} {fn : Func} {xs : Array Operand} {ats : Array TypeId} {args : Array Value} {d : Nat} (hd : o.dst = some d) (hop : o.op = .call { callee := .value (.func f), args := xs, argTypes := ats }) (hf : P.funcs[f]? = some fn) (hname : (fn.name == "runtime.NumGoroutine") = false) (hb : fn.body.isSome = true)
    (hargs : xs.map a.eval = args) (hc : Calls P f args w fun e w' => ∃ v, e = .returned v ∧ φ v w') : o.wp P a w (fun a' w' => ∃ v, a' = a.put o.dst v ∧ (o.dst = none → v = undef) ∧ φ v w') Q := by
  obtain ⟨c, hb⟩ := Option.isSome_iff_exists.1 hb
  have h1 : fn.name ≠ "runtime.NumGoroutine" := by simpa using hname
  have ef : a.eval (.func f) = .func (.func f) #[] #[] := rfl
  have he : (execOp a.eval o).run P w = .ok (.enter f args) w := by
    unfold execOp
    simp [hop, resolve, Deferred.ofValue, invoke, ef, hargs, callFunc, hf, h1, hb]
  unfold Oper.wp
  rw [he]
  simp only [Oper.upon]
  refine hc.mono ?_
  rintro e w' ⟨v, rfl, h2⟩
  exact ⟨v, rfl, fun h => (by rw [hd] at h; cases h), h2⟩
end FI
end Go.Proofs.YtmhmlkdoaojimapGreatDoor
