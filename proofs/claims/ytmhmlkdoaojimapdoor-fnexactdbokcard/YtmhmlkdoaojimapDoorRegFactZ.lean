/- A region that draws its order, whatever its operations leave: each is shown once, over all worlds that it may meet. 'psi i': what operation i wants of the world, until it has come up; 'phi i': what it leaves, from then on; 'Rel i': what it may turn; both stay under what the others turn. -/
import Derived.Test.YtmhmlkdoaojimapDoorRegFact
namespace Go.Proofs.YtmhmlkdoaojimapDoor
open Go.RowKit
namespace FZ

def dst? (ops : Array Oper) (i : Nat) : Option Nat := (ops[i]?).bind (·.dst)
def valAt (ops : Array Oper) (a : Act) (i : Nat) : Value := match dst? ops i with | some d => a.tmps.getD d undef | none => undef

def factsB (ops : Array Oper) (n : Nat) : Bool :=
  decide (n ≤ ops.size) && (decide (n = ops.size) || Region.sinkB .any ops n) && Region.chainB .any ops n && Region.seqB .any ops (ops.size - n) n (firstN ops.size n) &&
  (List.range n).all (fun i => match ops[i]? with | some o => o.guard.isNone && o.after.all (fun e => !Region.binds .any e || decide (e.on < i)) && ((List.range i).all fun j => o.dst.isNone || dst? ops j != o.dst) | none => false)

structure FrameAt (ops : Array Oper) (n : Nat) (a0 a : Act) : Prop where
  size : a.tmps.size = a0.tmps.size
  defers : a.defers = a0.defers
  same : ∀ s, (∀ i, i < n → dst? ops i ≠ some s) → a.tmps.getD s undef = a0.tmps.getD s undef

def putN (ops : Array Oper) (a0 : Act) (vals : Nat → Value) : Nat → Act
  | 0 => a0
  | k + 1 => (putN ops a0 vals k).put ((ops[k]?).bind (·.dst)) (vals k)

section
variable {P : Program} {ops : Array Oper} {Q : Exit → Act → World → Prop} {n : Nat}

theorem put_get2 {a : Act} {o : Option Nat} {s : Nat} {v : Value} (hd : ∀ d, o = some d → d < a.tmps.size) : (a.put o v).tmps.getD s undef = if o = some s then v else a.tmps.getD s undef := by
  cases o with
  | none => simp [Act.put]
  | some d =>
    rw [put_getD (hd d rfl)]
    by_cases h : d = s
    · subst h; simp
    · rw [if_neg h, if_neg (fun e => h (Option.some.inj e))]
theorem put_size2 {a : Act} {o : Option Nat} {v : Value} : (a.put o v).tmps.size = a.tmps.size := by cases o <;> simp [Act.put]
theorem put_defers2 {a : Act} {o : Option Nat} {v : Value} : (a.put o v).defers = a.defers := by cases o <;> rfl

structure FactsOk (ops : Array Oper) (n : Nat) : Prop where
  lt : n ≤ ops.size
  sink : n < ops.size → Region.sinkB .any ops n = true
  chain : Region.chainB .any ops n = true
  seq : Region.seqB .any ops (ops.size - n) n (firstN ops.size n) = true
  ops : ∀ i, i < n → ∃ o, ops[i]? = some o ∧ o.guard = none ∧ dst? ops i = o.dst ∧ (∀ e ∈ o.after, Region.binds .any e = true → e.on < i) ∧ ∀ j, j < i → ∀ d, o.dst = some d → dst? ops j ≠ some d

theorem factsOk_of (h : factsB ops n = true) : FactsOk ops n := by
  unfold factsB at h
  simp only [Bool.and_eq_true, decide_eq_true_eq] at h
  obtain ⟨⟨⟨⟨h1, h2⟩, h3⟩, h4⟩, h5⟩ := h
  refine ⟨h1, fun hlt => (by rw [decide_eq_false (by omega), Bool.false_or] at h2; exact h2), h3, h4, fun i hi => ?_⟩
  have h6 := List.all_eq_true.1 h5 i (by simpa using hi)
  cases ho : ops[i]? with
  | none => rw [ho] at h6; cases h6
  | some o =>
    rw [ho] at h6
    simp only [Bool.and_eq_true] at h6
    obtain ⟨⟨h7, h9⟩, h10⟩ := h6
    refine ⟨o, rfl, by simpa using h7, by unfold dst?; rw [ho]; rfl, fun e he hb => ?_, fun j hj d hd => ?_⟩
    · obtain ⟨q, hq, rfl⟩ := Array.mem_iff_getElem.1 he
      have := Array.all_eq_true.1 h9 q hq
      rw [hb] at this
      simpa using this
    · have := List.all_eq_true.1 h10 j (by simpa using hj)
      rw [hd] at this
      simpa using this

theorem putN_at (hf : FactsOk ops n) {a0 : Act} (hsz : ∀ i d, i < n → dst? ops i = some d → d < a0.tmps.size) (vals : Nat → Value) : ∀ k, k ≤ n →
    (putN ops a0 vals k).tmps.size = a0.tmps.size ∧ (putN ops a0 vals k).defers = a0.defers ∧ (∀ i d, i < k → dst? ops i = some d → (putN ops a0 vals k).tmps.getD d undef = vals i) ∧ ∀ s, (∀ i, i < k → dst? ops i ≠ some s) → (putN ops a0 vals k).tmps.getD s undef = a0.tmps.getD s undef
  | 0, _ => ⟨rfl, rfl, fun i _ hi => absurd hi (Nat.not_lt_zero _), fun _ _ => rfl⟩
  | k + 1, hk => by
    obtain ⟨h1, h2, h3, h4⟩ := putN_at hf hsz vals k (by omega)
    obtain ⟨o, ho, _, hdd, _, hne⟩ := hf.ops k (by omega)
    have e : putN ops a0 vals (k + 1) = (putN ops a0 vals k).put o.dst (vals k) := by
      show (putN ops a0 vals k).put ((ops[k]?).bind (·.dst)) (vals k) = _
      rw [ho]; rfl
    have hb : ∀ d, o.dst = some d → d < (putN ops a0 vals k).tmps.size := fun d hd => by rw [h1]; exact hsz k d (by omega) (by rw [hdd]; exact hd)
    rw [e]
    refine ⟨by rw [put_size2]; exact h1, by rw [put_defers2]; exact h2, fun i d hi hd => ?_, fun s hs => ?_⟩
    · rw [put_get2 hb]
      by_cases hik : i = k
      · subst hik; rw [if_pos (by rw [← hdd]; exact hd)]
      · rw [if_neg (fun e => hne i (by omega) d e hd)]
        exact h3 i d (by omega) hd
    · rw [put_get2 hb, if_neg (fun e => hs k (by omega) (by rw [hdd]; exact e))]
      exact h4 s fun i hi => hs i (by omega)

theorem frame_putN (hf : FactsOk ops n) {a0 a : Act} (hsz : ∀ i d, i < n → dst? ops i = some d → d < a0.tmps.size) (h : FrameAt ops n a0 a) : a = putN ops a0 (valAt ops a) n := by
  obtain ⟨h1, h2, h3, h4⟩ := putN_at hf hsz (valAt ops a) n (Nat.le_refl _)
  have hv : ∀ i d, dst? ops i = some d → valAt ops a i = a.tmps.getD d undef := fun i d hd => by unfold valAt; rw [hd]
  generalize putN ops a0 (valAt ops a) n = b at *
  have hg : ∀ s, a.tmps.getD s undef = b.tmps.getD s undef := fun s => by
    by_cases hs : ∃ i, i < n ∧ dst? ops i = some s
    · obtain ⟨i, hi, hd⟩ := hs
      rw [h3 i s hi hd, hv i s hd]
    · have hs' : ∀ i, i < n → dst? ops i ≠ some s := fun i hi e => hs ⟨i, hi, e⟩
      rw [h.same s hs', h4 s hs']
  obtain ⟨at', ad⟩ := a
  obtain ⟨bt, bd⟩ := b
  have e2 : ad = bd := h.defers.trans h2.symm
  have e1 : at' = bt := by
    apply Array.ext
    · exact h.size.trans h1.symm
    · intro i hi1 hi2
      have := hg i
      simpa [Array.getD, hi1, hi2] using this
  subst e1 e2
  rfl

/-- what waits on nothing but what is in it -/
def Closed (ops : Array Oper) (L : Nat → Bool) : Prop := ∀ i o, ops[i]? = some o → L i = true → ∀ j, waitsOn o j = true → L j = true
theorem closed_of {listed : Array Bool} (h : HeadInv .any ops n listed) : Closed ops fun i => listed.getD i false := fun i o ho hi j hj => by
  unfold waitsOn at hj
  obtain ⟨q, hq, he⟩ := Array.any_eq_true.1 hj
  simp only [Bool.and_eq_true, beq_iff_eq] at he
  have := h.closed i o ho hi _ (Array.getElem_mem hq) he.1
  rw [he.2] at this
  exact this
/-- what stands when the operations that are listed have come up -/
structure FInv (ops : Array Oper) (n : Nat) (φ : Nat → Value → World → Prop) (ψ : Nat → World → Prop) (a0 : Act) (listed : Array Bool) (a : Act) (w : World) : Prop where
  head : HeadInv .any ops n listed
  frame : FrameAt ops n a0 a
  facts : ∀ i, i < n → listed.getD i false = true → φ i (valAt ops a i) w
  pre : ∀ i, i < n → listed.getD i false = false → ψ i w

theorem facts_any {φ : Nat → Value → World → Prop} {ψ : Nat → World → Prop} {Rel : Nat → World → World → Prop} {a0 : Act} (hf : FactsOk ops n) (hsz : ∀ i d, i < n → dst? ops i = some d → d < a0.tmps.size)
    (stab : ∀ i j w w', i < n → j < n → j ≠ i → Rel j w w' → ((∃ L, Closed ops L ∧ L i = false ∧ L j = true) → ψ i w → ψ i w') ∧ ((∃ L, Closed ops L ∧ L i = true ∧ L j = false) → ∀ v, φ i v w → φ i v w'))
    (hop : ∀ i o, i < n → ops[i]? = some o → ∀ a w, ψ i w → FrameAt ops n a0 a → (∀ e ∈ o.after, Region.binds .any e = true → φ e.on (valAt ops a e.on) w) → o.wp P a w (fun a' w' => ∃ v, a' = a.put o.dst v ∧ (o.dst = none → v = undef) ∧ Rel i w w' ∧ φ i v w') Q)
    (l : List Oper) (hl : ops = l.toArray)
    (hend : ∀ (vals : Nat → Value) w, (∀ i, i < n → φ i (vals i) w) → wpList P ops Q (l.drop n) (putN ops a0 vals n) w) :
    ∀ (f : Nat) (listed : Array Bool) (a : Act) (w : World), FInv ops n φ ψ a0 listed a w → listed.count true + f = n → wpAny P .any ops Q (f + (ops.size - n)) listed a w
  | 0, listed, a, w, h, hc => by
    have hlen : (l.drop n).length = ops.size - n := by rw [hl]; simp
    have hall : ∀ i, i < n → listed.getD i false = true := by
      intro i hi
      cases hq : listed.getD i false with
      | true => rfl
      | false =>
        exfalso
        have hlt : i < listed.size := by rw [h.head.size]; have := hf.lt; omega
        have h1 := count_set (getD_in hlt hq)
        have h2 : (listed.setIfInBounds i true).count true ≤ n := by
          have h3 : ∀ t, n ≤ t → t < ops.size → (listed.setIfInBounds i true).getD t true = false := fun t ht ht' => by rw [getD_set_ne true (by omega)]; exact h.head.tail t ht ht'
          have hsz2 : (listed.setIfInBounds i true).size = ops.size := by simp [h.head.size]
          generalize listed.setIfInBounds i true = L at *
          have e : L.toList = L.toList.take n ++ L.toList.drop n := (List.take_append_drop n _).symm
          rw [← Array.count_toList, e, List.count_append]
          have z : (L.toList.drop n).count true = 0 := by
            rw [List.count_eq_zero]
            intro hm
            obtain ⟨q, hq1, hq2⟩ := List.getElem_of_mem hm
            rw [List.length_drop, Array.length_toList] at hq1
            rw [List.getElem_drop] at hq2
            have := h3 (n + q) (by omega) (by omega)
            have hlt2 : n + q < L.size := by omega
            simp [hlt2] at this
            simp at hq2
            rw [hq2] at this
            cases this
          have z2 := List.count_le_length (a := true) (l := L.toList.take n)
          rw [List.length_take] at z2
          omega
        omega
    have hlst : listed = firstN ops.size n := by
      apply Array.ext
      · rw [h.head.size]; simp [firstN]
      · intro i h1 h2
        simp only [firstN, Array.getElem_ofFn]
        by_cases hi : i < n
        · have := hall i hi
          simpa [h1, hi] using this
        · have := h.head.tail i (by omega) (by rw [← h.head.size]; exact h1)
          simpa [h1, hi] using this
    have hw : wpList P ops Q (l.drop n) a w := by
      rw [frame_putN hf hsz h.frame]
      exact hend _ w (fun i hi => h.facts i hi (hall i hi))
    have := wpAny_of_seq (md := .any) (Q' := Q) (l.drop n) n listed a w (fun j => by rw [hl]; simp [List.getElem?_drop]) (by rw [hlen, hlst]; exact hf.seq) hw
    rw [hlen] at this
    rw [Nat.zero_add]
    exact this
  | f + 1, listed, a, w, h, hc => by
    rw [show f + 1 + (ops.size - n) = (f + (ops.size - n)) + 1 by omega]
    -- the first that has not come up
    obtain ⟨i, hin, hiu⟩ : ∃ i, i < n ∧ listed.getD i true = false := by
      refine Classical.byContradiction fun hno => ?_
      have hall : ∀ i, i < n → listed.getD i false = true := fun i hi => by
        cases hq : listed.getD i false with
        | true => rfl
        | false => exact absurd ⟨i, hi, getD_in (by rw [h.head.size]; have := hf.lt; omega) hq⟩ hno
      have : n ≤ listed.count true := by
        have e : listed.toList = listed.toList.take n ++ listed.toList.drop n := (List.take_append_drop n _).symm
        rw [← Array.count_toList, e, List.count_append]
        have z : (listed.toList.take n).count true = (listed.toList.take n).length := by
          rw [List.count_eq_length]
          intro b hb
          obtain ⟨q, hq1, hq2⟩ := List.getElem_of_mem hb
          rw [List.length_take, Array.length_toList] at hq1
          rw [List.getElem_take] at hq2
          have := hall q (by omega)
          have hlt2 : q < listed.size := by omega
          simp [hlt2] at this
          simp at hq2
          rw [← hq2, this]
        rw [z, List.length_take, Array.length_toList, h.head.size]
        have := hf.lt
        omega
      omega
    have hleast : ∃ i, i < n ∧ listed.getD i true = false ∧ ∀ j, j < i → listed.getD j false = true := by
      induction i using Nat.strongRecOn with
      | ind i ih =>
        by_cases hj : ∃ j, j < i ∧ listed.getD j false = false
        · obtain ⟨j, hj1, hj2⟩ := hj
          exact ih j hj1 (by omega) (getD_in (by rw [h.head.size]; have := hf.lt; omega) hj2)
        · refine ⟨i, hin, hiu, fun j hji => ?_⟩
          cases hq : listed.getD j false with
          | true => rfl
          | false => exact absurd ⟨j, hji, hq⟩ hj
    obtain ⟨i0, h01, h02, h03⟩ := hleast
    obtain ⟨o0, ho0, _, _, haf0, _⟩ := hf.ops i0 h01
    have hr0 : i0 ∈ Region.ready .any ops listed := mem_ready.2 ⟨h02, o0, ho0, fun e he hb => h03 e.on (haf0 e he hb)⟩
    refine ⟨fun hn => (by rw [hn] at hr0; cases hr0), fun j hj => ?_⟩
    have hjn : j < n := by
      rcases Nat.lt_or_ge n ops.size with hlt | hge
      · exact Nat.lt_of_not_le fun hh => tail_waits (hf.sink hlt) hf.chain hlt h.head _ i0 rfl h01 h02 j hh hj
      · obtain ⟨_, oj0, hoj0, _⟩ := mem_ready.1 hj
        have := (Array.getElem?_eq_some_iff.1 hoj0).1
        omega
    obtain ⟨hju, oj', hoj', hjall⟩ := mem_ready.1 hj
    obtain ⟨oj, hoj, hg, hdd, haf, hne0⟩ := hf.ops j hjn
    obtain rfl : oj' = oj := Option.some.inj (hoj'.symm.trans hoj)
    have hjf : listed.getD j false = false := by
      cases hq : listed.getD j false with
      | false => rfl
      | true =>
        exfalso
        have hlt : j < listed.size := by rw [h.head.size]; have := hf.lt; omega
        simp [hlt] at hq hju
        rw [hju] at hq; cases hq
    have hstep := hop j oj' hjn hoj a w (h.pre j hjn hjf) h.frame (fun e he hb => h.facts e.on (Nat.lt_trans (haf e he hb) hjn) (hjall e he hb))
    unfold wpOp
    rw [hoj]
    simp only [Region.wanted, hg, if_true]
    refine Or.inl (Oper.wp_mono ?_ hstep)
    rintro a' w' ⟨v, rfl, hvn, hb, hφ⟩
    have hdlt : ∀ d, oj'.dst = some d → d < a.tmps.size := fun d hd => by rw [h.frame.size]; exact hsz j d hjn (by rw [hdd]; exact hd)
    have hls : ∀ k, j ≠ k → (listed.setIfInBounds j true).getD k false = true → listed.getD k false = true := fun k hk hl => by rwa [getD_set_ne false hk] at hl
    have hvj : valAt ops (a.put oj'.dst v) j = v := by
      unfold valAt
      rw [hdd]
      cases hd : oj'.dst with
      | none => exact (hvn hd).symm
      | some d => show (a.put (some d) v).tmps.getD d undef = v; rw [put_get2 (by rw [← hd]; exact hdlt), if_pos rfl]
    have hvk : ∀ k, k < n → j ≠ k → valAt ops (a.put oj'.dst v) k = valAt ops a k := fun k hk hjk => by
      unfold valAt
      cases hdk : dst? ops k with
      | none => rfl
      | some d =>
        show (a.put oj'.dst v).tmps.getD d undef = a.tmps.getD d undef
        rw [put_get2 hdlt, if_neg]
        intro e
        rcases Nat.lt_or_gt_of_ne hjk with hlt | hgt
        · obtain ⟨ok, _, _, hdk2, _, hne⟩ := hf.ops k hk
          exact hne j hlt d (by rw [← hdk2]; exact hdk) (by rw [hdd]; exact e)
        · exact hne0 k hgt d e hdk
    refine facts_any hf hsz stab hop l hl hend f _ _ _ ⟨h.head.set hj hjn, ⟨by rw [put_size2]; exact h.frame.size, by rw [put_defers2]; exact h.frame.defers, fun s hs => ?_⟩, fun k hk hkl => ?_, fun k hk hkl => ?_⟩ (by rw [count_set hju]; omega)
    · rw [put_get2 hdlt, if_neg (fun e => hs j hjn (by rw [hdd]; exact e))]
      exact h.frame.same s hs
    · by_cases hjk : j = k
      · subst hjk
        rw [hvj]
        exact hφ
      · rw [hvk k hk hjk]
        exact (stab k j _ _ hk hjn hjk hb).2 ⟨_, closed_of h.head, hls k hjk hkl, hjf⟩ _ (h.facts k hk (hls k hjk hkl))
    · have hjk : j ≠ k := by
        rintro rfl
        have hlt : j < listed.size := by rw [h.head.size]; have := hf.lt; omega
        simp [hlt] at hkl
      exact (stab k j _ _ hk hjn hjk hb).1 ⟨_, closed_of (h.head.set hj hjn), hkl, by
        have hlt : j < listed.size := by rw [h.head.size]; have := hf.lt; omega
        simp [hlt]⟩ (h.pre k hk (by rwa [getD_set_ne false hjk] at hkl))
end

theorem wp_region_factsZ {P : Program} {Q : Exit → Act → World → Prop} {id : Nat} {a0 : Act} {w : World} {l : List Oper} (n : Nat) (φ : Nat → Value → World → Prop) (ψ : Nat → World → Prop) (Rel : Nat → World → World → Prop) (hm : P.follows .mixedOrders = true) (hB : factsB l.toArray n = true)
    (N : Nat) (hN : a0.tmps.size = N) (hD : ((List.range n).all fun i => match dst? l.toArray i with | some d => decide (d < N) | none => true) = true)
    (start : ∀ i, i < n → ψ i w.drew)
    (stab : ∀ i j w w', i < n → j < n → j ≠ i → Rel j w w' → ((∃ L, Closed l.toArray L ∧ L i = false ∧ L j = true) → ψ i w → ψ i w') ∧ ((∃ L, Closed l.toArray L ∧ L i = true ∧ L j = false) → ∀ v, φ i v w → φ i v w'))
    (hop : ∀ i o, i < n → l[i]? = some o → ∀ a w', ψ i w' → (∀ s, (∀ i, i < n → dst? l.toArray i ≠ some s) → a.tmps.getD s undef = a0.tmps.getD s undef) → (∀ j, waitsOn o j = true → φ j (valAt l.toArray a j) w') → a.defers = a0.defers → o.wp P a w' (fun a' w'' => ∃ v, a' = a.put o.dst v ∧ (o.dst = none → v = undef) ∧ Rel i w' w'' ∧ φ i v w'') Q)
    (hend : ∀ (vals : Nat → Value) w', (∀ i, i < n → φ i (vals i) w') → wpList P l.toArray Q (l.drop n) (putN l.toArray a0 vals n) w') : (Code.region id l.toArray true).wp P Q a0 w := by
  have hf := factsOk_of hB
  have hsz : ∀ i d, i < n → dst? l.toArray i = some d → d < a0.tmps.size := fun i d hi hd => by
    have := List.all_eq_true.1 hD i (by simpa using hi)
    rw [hd] at this
    rw [hN]; simpa using this
  refine wp_region_any hm ?_
  have inv0 : HeadInv .any l.toArray n (Array.replicate l.toArray.size false) :=
    ⟨by simp, fun j oj _ hl => (by rw [getD_replicate_false] at hl; cases hl), fun t _ ht => getD_in (by simpa using ht) (getD_replicate_false _ _)⟩
  have := facts_any (P := P) (Q := Q) (φ := φ) (ψ := ψ) (Rel := Rel) hf hsz stab (fun i o hi ho a w' hp hfr hdep => hop i o hi (by simpa using ho) a w' hp hfr.same (fun j hj => by
    unfold waitsOn at hj
    obtain ⟨q, hq, he⟩ := Array.any_eq_true.1 hj
    simp only [Bool.and_eq_true, beq_iff_eq] at he
    rw [← he.2]
    exact hdep _ (Array.getElem_mem hq) he.1) hfr.defers) l rfl hend n (Array.replicate l.toArray.size false) a0 w.drew ⟨inv0, ⟨rfl, rfl, fun _ _ => rfl⟩, fun i _ hl => (by rw [getD_replicate_false] at hl; cases hl), fun i hi _ => start i hi⟩ (by simp [Array.count_replicate])
  rw [show n + (l.toArray.size - n) = l.toArray.size by have := hf.lt; omega] at this
  exact this

theorem fact_valueZ {P : Program} {o : Oper} {a : Act} {w w' : World} {R : World → Prop} {φ : Value → World → Prop} {Q : Exit → Act → World → Prop} {v : Value} {d : Nat} (hd : o.dst = some d) (h : (execOp a.eval o).run P w = .ok (.value v) w') (hb : R w') (hk : φ v w') :
    o.wp P a w (fun a' w'' => ∃ v, a' = a.put o.dst v ∧ (o.dst = none → v = undef) ∧ R w'' ∧ φ v w'') Q := by
  unfold Oper.wp
  rw [h]
  exact ⟨v, rfl, fun h => (by rw [hd] at h; cases h), hb, hk⟩
theorem fact_storeZ {P : Program} {o : Oper} {a : Act} {w w' : World} {R : World → Prop} {φ : Value → World → Prop} {Q : Exit → Act → World → Prop} (hd : o.dst = none) (h : (execOp a.eval o).run P w = .ok .skip w') (hb : R w') (hk : φ undef w') :
    o.wp P a w (fun a' w'' => ∃ v, a' = a.put o.dst v ∧ (o.dst = none → v = undef) ∧ R w'' ∧ φ v w'') Q := by
  unfold Oper.wp
  rw [h]
  exact ⟨undef, by rw [hd], fun _ => rfl, hb, hk⟩
/-- a call: it returns, or it panics, and the region is left -/
theorem fact_callZ {P : Program} {o : Oper} {a : Act} {w : World} {R : World → Prop} {φ : Value → World → Prop} {Q : Exit → Act → World → Prop} {f : FuncId} {fn : Func} {xs : Array Operand} {ats : Array TypeId} {args : Array Value} {d : Nat} (hd : o.dst = some d) (hop : o.op = .call { callee := .value (.func f), args := xs, argTypes := ats }) (hf : P.funcs[f]? = some fn) (hname : (fn.name == "runtime.NumGoroutine") = false) (hb : fn.body.isSome = true)
    (hargs : xs.map a.eval = args) (hc : Calls P f args w fun e w' => (∃ v, e = .returned v ∧ R w' ∧ φ v w') ∨ ∃ c, e = .panicked c ∧ Q (.panic c) a w') : o.wp P a w (fun a' w' => ∃ v, a' = a.put o.dst v ∧ (o.dst = none → v = undef) ∧ R w' ∧ φ v w') Q := by
  obtain ⟨c, hb⟩ := Option.isSome_iff_exists.1 hb
  have h1 : fn.name ≠ "runtime.NumGoroutine" := by simpa using hname
  have ef : a.eval (.func f) = .func (.func f) #[] #[] := rfl
  have he : (execOp a.eval o).run P w = .ok (.enter f args) w := by
    unfold execOp
    simp [hop, resolve, Deferred.ofValue, invoke, ef, hargs, callFunc, hf, h1, hb]
  unfold Oper.wp
  rw [he]
  simp only [Oper.upon]
  refine hc.mono ?_
  rintro e w' (⟨v, rfl, h2, h3⟩ | ⟨c, rfl, h2⟩)
  · exact ⟨v, rfl, fun h => (by rw [hd] at h; cases h), h2, h3⟩
  · exact h2
end FZ
end Go.Proofs.YtmhmlkdoaojimapDoor
