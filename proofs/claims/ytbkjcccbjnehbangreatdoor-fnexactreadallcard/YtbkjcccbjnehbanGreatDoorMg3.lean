import Derived.WalkKit
import Derived.StillTail
import Derived.Test.YtbkjcccbjnehbanGreatDoorMg2
namespace Go.Proofs.YtbkjcccbjnehbanGreatDoor
open Go.RowKit
def dstOf (ops : Array Oper) (i : Nat) : Nat := ((ops[i]?).bind (·.dst)).getD 0
def firstN (m n : Nat) : Array Bool := Array.ofFn (n := m) fun i => decide (i.val < n)
def factsB (ops : Array Oper) (n : Nat) : Bool :=
 decide (n < ops.size) && Region.sinkB .any ops n && Region.chainB .any ops n && Region.seqB .any ops (ops.size - n) n (firstN ops.size n) &&
 (List.range n).all (fun i => match ops[i]? with | some o => o.guard.isNone && o.dst.isSome && o.after.all (fun e => !Region.binds .any e || decide (e.on < i)) && ((List.range i).all fun j => dstOf ops j != dstOf ops i) | none => false)
structure FrameAt (ops : Array Oper) (n : Nat) (a0 a : Act) : Prop where
 size : a.tmps.size = a0.tmps.size
 defers : a.defers = a0.defers
 same : ∀ s, (∀ i, i < n → dstOf ops i ≠ s) → a.tmps.getD s undef = a0.tmps.getD s undef
def putN (ops : Array Oper) (a0 : Act) (vals : Nat → Value) : Nat → Act
 | 0 => a0
 | k + 1 => (putN ops a0 vals k).put ((ops[k]?).bind (·.dst)) (vals k)
section
variable {P : Program} {ops : Array Oper} {Q : Exit → Act → World → Prop} {n : Nat}
theorem put_getD {a : Act} {d s : Nat} {v : Value} (hd : d < a.tmps.size) : (a.put (some d) v).tmps.getD s undef = if d = s then v else a.tmps.getD s undef := by
 unfold Act.put
 by_cases h : d = s
 · subst h; simp [hd]
 · simp [h, Array.getElem?_setIfInBounds_ne h]
theorem put_size {a : Act} {d : Nat} {v : Value} : (a.put (some d) v).tmps.size = a.tmps.size := by unfold Act.put; simp
theorem put_defers {a : Act} {d : Nat} {v : Value} : (a.put (some d) v).defers = a.defers := by unfold Act.put; rfl
structure FactsOk (ops : Array Oper) (n : Nat) : Prop where
 lt : n < ops.size
 sink : Region.sinkB .any ops n = true
 chain : Region.chainB .any ops n = true
 seq : Region.seqB .any ops (ops.size - n) n (firstN ops.size n) = true
 ops : ∀ i, i < n → ∃ o d, ops[i]? = some o ∧ o.guard = none ∧ o.dst = some d ∧ dstOf ops i = d ∧ (∀ e ∈ o.after, Region.binds .any e = true → e.on < i) ∧ ∀ j, j < i → dstOf ops j ≠ d
theorem factsOk_of (h : factsB ops n = true) : FactsOk ops n := by
 unfold factsB at h
 simp only [Bool.and_eq_true, decide_eq_true_eq] at h
 obtain ⟨⟨⟨⟨h1, h2⟩, h3⟩, h4⟩, h5⟩ := h
 refine ⟨h1, h2, h3, h4, fun i hi => ?_⟩
 have h6 := List.all_eq_true.1 h5 i (by simpa using hi)
 cases ho : ops[i]? with
 | none => rw [ho] at h6; cases h6
 | some o =>
   rw [ho] at h6
   simp only [Bool.and_eq_true] at h6
   obtain ⟨⟨⟨h7, h8⟩, h9⟩, h10⟩ := h6
   obtain ⟨d, hd⟩ := Option.isSome_iff_exists.1 h8
   have hdd : dstOf ops i = d := by unfold dstOf; rw [ho]; simp [hd]
   refine ⟨o, d, rfl, by simpa using h7, hd, hdd, fun e he hb => ?_, fun j hj => ?_⟩
   · obtain ⟨q, hq, rfl⟩ := Array.mem_iff_getElem.1 he
     have := Array.all_eq_true.1 h9 q hq
     rw [hb] at this
     simpa using this
   · have := List.all_eq_true.1 h10 j (by simpa using hj)
     rw [hdd] at this
     simpa using this
theorem putN_at (hf : FactsOk ops n) {a0 : Act} (hsz : ∀ i, i < n → dstOf ops i < a0.tmps.size) (vals : Nat → Value) : ∀ k, k ≤ n →
   (putN ops a0 vals k).tmps.size = a0.tmps.size ∧ (putN ops a0 vals k).defers = a0.defers ∧ (∀ i, i < k → (putN ops a0 vals k).tmps.getD (dstOf ops i) undef = vals i) ∧ ∀ s, (∀ i, i < k → dstOf ops i ≠ s) → (putN ops a0 vals k).tmps.getD s undef = a0.tmps.getD s undef
 | 0, _ => ⟨rfl, rfl, fun i hi => absurd hi (Nat.not_lt_zero _), fun _ _ => rfl⟩
 | k + 1, hk => by
   obtain ⟨h1, h2, h3, h4⟩ := putN_at hf hsz vals k (by omega)
   obtain ⟨o, d, ho, _, hd, hdd, _, hne⟩ := hf.ops k (by omega)
   have hlt := hsz k (by omega)
   rw [hdd] at hlt
   have e : putN ops a0 vals (k + 1) = (putN ops a0 vals k).put (some d) (vals k) := by
     show (putN ops a0 vals k).put ((ops[k]?).bind (·.dst)) (vals k) = _
     rw [ho]; simp [hd]
   rw [e]
   refine ⟨by rw [put_size]; exact h1, by rw [put_defers]; exact h2, fun i hi => ?_, fun s hs => ?_⟩
   · rw [put_getD (by omega)]
     by_cases hik : i = k
     · subst hik; rw [if_pos hdd.symm]
     · rw [if_neg (fun e => hne i (by omega) e.symm)]
       exact h3 i (by omega)
   · rw [put_getD (by omega), if_neg (fun e => hs k (by omega) (by rw [hdd]; exact e))]
     exact h4 s fun i hi => hs i (by omega)
theorem frame_putN (hf : FactsOk ops n) {a0 a : Act} (hsz : ∀ i, i < n → dstOf ops i < a0.tmps.size) (h : FrameAt ops n a0 a) : a = putN ops a0 (fun i => a.tmps.getD (dstOf ops i) undef) n := by
 obtain ⟨h1, h2, h3, h4⟩ := putN_at hf hsz (fun i => a.tmps.getD (dstOf ops i) undef) n (Nat.le_refl _)
 generalize putN ops a0 (fun i => a.tmps.getD (dstOf ops i) undef) n = b at *
 have hg : ∀ s, a.tmps.getD s undef = b.tmps.getD s undef := fun s => by
   by_cases hs : ∃ i, i < n ∧ dstOf ops i = s
   · obtain ⟨i, hi, rfl⟩ := hs
     exact (h3 i hi).symm
   · have hs' : ∀ i, i < n → dstOf ops i ≠ s := fun i hi e => hs ⟨i, hi, e⟩
     rw [h.same s hs', h4 s hs']
 obtain ⟨at', ad⟩ := a
 obtain ⟨bt, bd⟩ := b
 have e2 : ad = bd := h.defers.trans h2.symm
 have e1 : at' = bt := by
   apply Array.ext
   · exact h.size.trans h1.symm
   · intro i hi1 hi2
     have := hg i
     simpa [Array.getD, hi1, hi2] using this
 subst e1 e2
 rfl
structure FInv (ops : Array Oper) (n : Nat) (φ : Nat → Value → List Nat → World → Prop) (a0 : Act) (w0 : World) (S : Nat → List Nat) (listed : Array Bool) (a : Act) (w : World) : Prop where
 head : HeadInv .any ops n listed
 later : Below w0.heap.size w0 w
 frame : FrameAt ops n a0 a
 facts : ∀ i, i < n → listed.getD i false = true → φ i (a.tmps.getD (dstOf ops i) undef) (S i) w ∧ ∀ f ∈ S i, w0.heap.size ≤ f ∧ f < w.heap.size
 apart : ∀ i j, i < n → j < n → listed.getD i false = true → listed.getD j false = true → i ≠ j → ∀ f ∈ S i, f ∉ S j
theorem count_set {listed : Array Bool} {i : Nat} (h : listed.getD i true = false) : (listed.setIfInBounds i true).count true = listed.count true + 1 := by
 have hlt : i < listed.size := by
   rcases Nat.lt_or_ge i listed.size with h' | h'
   · exact h'
   · simp [Array.getElem?_eq_none h'] at h
 have hf : listed[i] = false := by simpa [hlt] using h
 rw [Array.setIfInBounds, dif_pos hlt, Array.count_set hlt]
 simp [hf]
theorem facts_any {φ : Nat → Value → List Nat → World → Prop} {a0 : Act} {w0 : World} (hf : FactsOk ops n) (hsz : ∀ i, i < n → dstOf ops i < a0.tmps.size)
   (stab : ∀ i v S w w', i < n → φ i v S w → Below w.heap.size w w' → φ i v S w')
   (hop : ∀ i o, i < n → ops[i]? = some o → ∀ a w, Below w0.heap.size w0 w → FrameAt ops n a0 a → (∀ e ∈ o.after, Region.binds .any e = true → ∃ S, φ e.on (a.tmps.getD (dstOf ops e.on) undef) S w) → o.wp P a w (fun a' w' => ∃ v, a' = a.put o.dst v ∧ Below w.heap.size w w' ∧ ∃ S, φ i v S w' ∧ ∀ f ∈ S, w.heap.size ≤ f ∧ f < w'.heap.size) Q)
   (l : List Oper) (hl : ops = l.toArray)
   (hend : ∀ (vals : Nat → Value) (S : Nat → List Nat) w, Below w0.heap.size w0 w → (∀ i, i < n → φ i (vals i) (S i) w ∧ ∀ f ∈ S i, w0.heap.size ≤ f ∧ f < w.heap.size) → (∀ i j, i < n → j < n → i ≠ j → ∀ f ∈ S i, f ∉ S j) → wpList P ops Q (l.drop n) (putN ops a0 vals n) w) :
   ∀ (f : Nat) (S : Nat → List Nat) (listed : Array Bool) (a : Act) (w : World), FInv ops n φ a0 w0 S listed a w → listed.count true + f = n → wpAny P .any ops Q (f + (ops.size - n)) listed a w
 | 0, S, listed, a, w, h, hc => by
   have hlen : (l.drop n).length = ops.size - n := by rw [hl]; simp
   have hall : ∀ i, i < n → listed.getD i false = true := by
     intro i hi
     cases hq : listed.getD i false with
     | true => rfl
     | false =>
       exfalso
       have hlt : i < listed.size := by rw [h.head.size]; have := hf.lt; omega
       have h1 := count_set (getD_in hlt hq)
       have h2 : (listed.setIfInBounds i true).count true ≤ n := by
         have h3 : ∀ t, n ≤ t → t < ops.size → (listed.setIfInBounds i true).getD t true = false := fun t ht ht' => by rw [getD_set_ne true (by omega)]; exact h.head.tail t ht ht'
         have hsz2 : (listed.setIfInBounds i true).size = ops.size := by simp [h.head.size]
         generalize listed.setIfInBounds i true = L at *
         have e : L.toList = L.toList.take n ++ L.toList.drop n := (List.take_append_drop n _).symm
         rw [← Array.count_toList, e, List.count_append]
         have z : (L.toList.drop n).count true = 0 := by
           rw [List.count_eq_zero]
           intro hm
           obtain ⟨q, hq1, hq2⟩ := List.getElem_of_mem hm
           rw [List.length_drop, Array.length_toList] at hq1
           rw [List.getElem_drop] at hq2
           have := h3 (n + q) (by omega) (by omega)
           have hlt2 : n + q < L.size := by omega
           simp [hlt2] at this
           simp at hq2
           rw [hq2] at this
           cases this
         have z2 := List.count_le_length (a := true) (l := L.toList.take n)
         rw [List.length_take] at z2
         omega
       omega
   have hlst : listed = firstN ops.size n := by
     apply Array.ext
     · rw [h.head.size]; simp [firstN]
     · intro i h1 h2
       simp only [firstN, Array.getElem_ofFn]
       by_cases hi : i < n
       · have := hall i hi
         simpa [h1, hi] using this
       · have := h.head.tail i (by omega) (by rw [← h.head.size]; exact h1)
         simpa [h1, hi] using this
   have hw : wpList P ops Q (l.drop n) a w := by
     rw [frame_putN hf hsz h.frame]
     exact hend _ S w h.later (fun i hi => h.facts i hi (hall i hi)) fun i j hi hj hne => h.apart i j hi hj (hall i hi) (hall j hj) hne
   have := wpAny_of_seq (md := .any) (Q' := Q) (l.drop n) n listed a w (fun j => by rw [hl]; simp [List.getElem?_drop]) (by rw [hlen, hlst]; exact hf.seq) hw
   rw [hlen] at this
   rw [Nat.zero_add]
   exact this
 | f + 1, S, listed, a, w, h, hc => by
   rw [show f + 1 + (ops.size - n) = (f + (ops.size - n)) + 1 by omega]
   obtain ⟨i, hin, hiu⟩ : ∃ i, i < n ∧ listed.getD i true = false := by
     refine Classical.byContradiction fun hno => ?_
     have hall : ∀ i, i < n → listed.getD i false = true := fun i hi => by
       cases hq : listed.getD i false with
       | true => rfl
       | false => exact absurd ⟨i, hi, getD_in (by rw [h.head.size]; have := hf.lt; omega) hq⟩ hno
     have : n ≤ listed.count true := by
       have e : listed.toList = listed.toList.take n ++ listed.toList.drop n := (List.take_append_drop n _).symm
       rw [← Array.count_toList, e, List.count_append]
       have z : (listed.toList.take n).count true = (listed.toList.take n).length := by
         rw [List.count_eq_length]
         intro b hb
         obtain ⟨q, hq1, hq2⟩ := List.getElem_of_mem hb
         rw [List.length_take, Array.length_toList] at hq1
         rw [List.getElem_take] at hq2
         have := hall q (by omega)
         have hlt2 : q < listed.size := by omega
         simp [hlt2] at this
         simp at hq2
         rw [← hq2, this]
       rw [z, List.length_take, Array.length_toList, h.head.size]
       have := hf.lt
       omega
     omega
   have hleast : ∃ i, i < n ∧ listed.getD i true = false ∧ ∀ j, j < i → listed.getD j false = true := by
     induction i using Nat.strongRecOn with
     | ind i ih =>
       by_cases hj : ∃ j, j < i ∧ listed.getD j false = false
       · obtain ⟨j, hj1, hj2⟩ := hj
         exact ih j hj1 (by omega) (getD_in (by rw [h.head.size]; have := hf.lt; omega) hj2)
       · refine ⟨i, hin, hiu, fun j hji => ?_⟩
         cases hq : listed.getD j false with
         | true => rfl
         | false => exact absurd ⟨j, hji, hq⟩ hj
   obtain ⟨i0, h01, h02, h03⟩ := hleast
   obtain ⟨o0, d0, ho0, _, _, _, haf0, _⟩ := hf.ops i0 h01
   have hr0 : i0 ∈ Region.ready .any ops listed := mem_ready.2 ⟨h02, o0, ho0, fun e he hb => h03 e.on (haf0 e he hb)⟩
   refine ⟨fun hn => (by rw [hn] at hr0; cases hr0), fun j hj => ?_⟩
   have hjn : j < n := Nat.lt_of_not_le fun hh => tail_waits hf.sink hf.chain hf.lt h.head _ i0 rfl h01 h02 j hh hj
   obtain ⟨hju, oj', hoj', hjall⟩ := mem_ready.1 hj
   obtain ⟨oj, d, hoj, hg, hd, hdd, haf, _⟩ := hf.ops j hjn
   obtain rfl : oj' = oj := Option.some.inj (hoj'.symm.trans hoj)
   have hstep := hop j oj' hjn hoj a w h.later h.frame (fun e he hb => ⟨_, (h.facts e.on (Nat.lt_trans (haf e he hb) hjn) (hjall e he hb)).1⟩)
   unfold wpOp
   rw [hoj]
   simp only [Region.wanted, hg, if_true]
   refine Or.inl (Oper.wp_mono ?_ hstep)
   rintro a' w' ⟨v, rfl, hb, Sj, hφ, hSj⟩
   rw [hd]
   have hdlt : d < a.tmps.size := by rw [h.frame.size, ← hdd]; exact hsz j hjn
   have hls : ∀ k, j ≠ k → (listed.setIfInBounds j true).getD k false = true → listed.getD k false = true := fun k hk hl => by rwa [getD_set_ne false hk] at hl
   refine facts_any hf hsz stab hop l hl hend f (fun k => if k = j then Sj else S k) _ _ _ ⟨h.head.set hj hjn, h.later.trans (hb.mono h.later.size), ⟨by rw [put_size]; exact h.frame.size, by rw [put_defers]; exact h.frame.defers, fun s hs => ?_⟩, fun k hk hkl => ?_, fun k1 k2 h1 h2 hl1 hl2 hne f' hf1 hf2 => ?_⟩ (by rw [count_set hju]; omega)
   · rw [put_getD hdlt, if_neg (fun e => hs j hjn (by rw [hdd]; exact e))]
     exact h.frame.same s hs
   · by_cases hjk : j = k
     · subst hjk
       rw [put_getD hdlt, if_pos hdd.symm, if_pos rfl]
       exact ⟨hφ, fun f' hf' => ⟨Nat.le_trans h.later.size (hSj f' hf').1, (hSj f' hf').2⟩⟩
     · have hne : d ≠ dstOf ops k := by
         rcases Nat.lt_or_gt_of_ne hjk with hlt | hgt
         · obtain ⟨_, dk, _, _, _, hdk, _, hne⟩ := hf.ops k hk
           intro e
           exact hne j hlt (by rw [hdd, e, hdk])
         · obtain ⟨_, dj, _, _, hdj, hdj2, _, hne⟩ := hf.ops j hjn
           intro e
           exact hne k hgt (by rw [← e, ← hdd, hdj2])
       rw [put_getD hdlt, if_neg hne, if_neg (Ne.symm hjk)]
       obtain ⟨q1, q2⟩ := h.facts k hk (hls k hjk hkl)
       exact ⟨stab k _ _ _ _ hk q1 hb, fun f' hf' => ⟨(q2 f' hf').1, Nat.lt_of_lt_of_le (q2 f' hf').2 hb.size⟩⟩
   · by_cases e1 : k1 = j
     · rw [if_pos e1] at hf1
       rw [if_neg (fun e2 => hne (e1.trans e2.symm))] at hf2
       have := ((h.facts k2 h2 (hls k2 (fun e => hne (e1.trans e)) hl2)).2 f' hf2).2
       have := (hSj f' hf1).1
       omega
     · rw [if_neg e1] at hf1
       have hk1 := hls k1 (Ne.symm e1) hl1
       by_cases e2 : k2 = j
       · rw [if_pos e2] at hf2
         have := ((h.facts k1 h1 hk1).2 f' hf1).2
         have := (hSj f' hf2).1
         omega
       · rw [if_neg e2] at hf2
         exact h.apart k1 k2 h1 h2 hk1 (hls k2 (Ne.symm e2) hl2) hne f' hf1 hf2
end
def waitsOn (o : Oper) (j : Nat) : Bool := o.after.any fun e => Region.binds .any e && e.on == j
theorem wp_region_facts {P : Program} {Q : Exit → Act → World → Prop} {id : Nat} {a0 : Act} {w : World} {l : List Oper} (n : Nat) (φ : Nat → Value → List Nat → World → Prop) (hm : P.follows .mixedOrders = true) (hB : factsB l.toArray n = true)
   (N : Nat) (hN : a0.tmps.size = N) (hD : ((List.range n).all fun i => decide (dstOf l.toArray i < N)) = true)
   (stab : ∀ i v S w w', i < n → φ i v S w → Below w.heap.size w w' → φ i v S w')
   (hop : ∀ i o, i < n → l[i]? = some o → ∀ a w', Below w.heap.size w w' → (∀ s, (∀ i, i < n → dstOf l.toArray i ≠ s) → a.tmps.getD s undef = a0.tmps.getD s undef) → (∀ j, waitsOn o j = true → ∃ S, φ j (a.tmps.getD (dstOf l.toArray j) undef) S w') → o.wp P a w' (fun a' w'' => ∃ v, a' = a.put o.dst v ∧ Below w'.heap.size w' w'' ∧ ∃ S, φ i v S w'' ∧ ∀ f ∈ S, w'.heap.size ≤ f ∧ f < w''.heap.size) Q)
   (hend : ∀ (vals : Nat → Value) (S : Nat → List Nat) w', Below w.heap.size w w' → (∀ i, i < n → φ i (vals i) (S i) w' ∧ ∀ f ∈ S i, w.heap.size ≤ f ∧ f < w'.heap.size) → (∀ i j, i < n → j < n → i ≠ j → ∀ f ∈ S i, f ∉ S j) → wpList P l.toArray Q (l.drop n) (putN l.toArray a0 vals n) w') : (Code.region id l.toArray true).wp P Q a0 w := by
 have hf := factsOk_of hB
 have hsz : ∀ i, i < n → dstOf l.toArray i < a0.tmps.size := fun i hi => by
   have := List.all_eq_true.1 hD i (by simpa using hi)
   rw [hN]; simpa using this
 have hd : Below w.heap.size w w.drew := (Below.refl w.heap.size w).drew
 refine wp_region_any hm ?_
 have inv0 : HeadInv .any l.toArray n (Array.replicate l.toArray.size false) :=
   ⟨by simp, fun j oj _ hl => (by rw [getD_replicate_false] at hl; cases hl), fun t _ ht => getD_in (by simpa using ht) (getD_replicate_false _ _)⟩
 have := facts_any (P := P) (Q := Q) (φ := φ) (w0 := w) hf hsz stab (fun i o hi ho a w' hb hfr hdep => hop i o hi (by simpa using ho) a w' hb hfr.same fun j hj => by
   unfold waitsOn at hj
   obtain ⟨q, hq, he⟩ := Array.any_eq_true.1 hj
   simp only [Bool.and_eq_true, beq_iff_eq] at he
   rw [← he.2]
   exact hdep _ (Array.getElem_mem hq) he.1) l rfl hend n (fun _ => []) (Array.replicate l.toArray.size false) a0 w.drew ⟨inv0, hd, ⟨rfl, rfl, fun _ _ => rfl⟩, fun i _ hl => (by rw [getD_replicate_false] at hl; cases hl), fun i j _ _ hl => (by rw [getD_replicate_false] at hl; cases hl)⟩ (by simp [Array.count_replicate])
 rw [show n + (l.toArray.size - n) = l.toArray.size by have := hf.lt; omega] at this
 exact this
theorem fact_enter {P : Program} {o : Oper} {a : Act} {w : World} {φ : Value → World → Prop} {Q : Exit → Act → World → Prop} {f : FuncId} {args : Array Value} (h : (execOp a.eval o).run P w = .ok (.enter f args) w) (hc : Calls P f args w fun e w' => ∃ v, e = .returned v ∧ Below w.heap.size w w' ∧ φ v w') : o.wp P a w (fun a' w' => ∃ v, a' = a.put o.dst v ∧ Below w.heap.size w w' ∧ φ v w') Q := by
 unfold Oper.wp
 rw [h]
 simp only [Oper.upon]
 exact hc.mono (by rintro e w' ⟨v, rfl, hk⟩; exact ⟨v, rfl, hk⟩)
theorem fact_call {P : Program} {o : Oper} {a : Act} {w : World} {φ : Value → World → Prop} {Q : Exit → Act → World → Prop} {f : FuncId} {fn : Func} {xs : Array Operand} {ats : Array TypeId} {args : Array Value} (hop : o.op = .call { callee := .value (.func f), args := xs, argTypes := ats }) (hf : P.funcs[f]? = some fn) (hname : (fn.name == "runtime.NumGoroutine") = false) (hb : fn.body.isSome = true)
   (hargs : xs.map a.eval = args) (hc : Calls P f args w fun e w' => ∃ v, e = .returned v ∧ Below w.heap.size w w' ∧ φ v w') : o.wp P a w (fun a' w' => ∃ v, a' = a.put o.dst v ∧ Below w.heap.size w w' ∧ φ v w') Q := by
 obtain ⟨c, hb⟩ := Option.isSome_iff_exists.1 hb
 have h1 : fn.name ≠ "runtime.NumGoroutine" := by simpa using hname
 have ef : a.eval (.func f) = .func (.func f) #[] #[] := rfl
 refine fact_enter ?_ hc
 unfold execOp
 simp [hop, resolve, Deferred.ofValue, invoke, ef, hargs, callFunc, hf, h1, hb]
theorem fact_value {P : Program} {o : Oper} {a : Act} {w w' : World} {φ : Value → World → Prop} {Q : Exit → Act → World → Prop} {v : Value} (h : (execOp a.eval o).run P w = .ok (.value v) w') (hb : Below w.heap.size w w') (hk : φ v w') : o.wp P a w (fun a' w' => ∃ v, a' = a.put o.dst v ∧ Below w.heap.size w w' ∧ φ v w') Q := by
 unfold Oper.wp
 rw [h]
 exact ⟨v, rfl, hb, hk⟩
end Go.Proofs.YtbkjcccbjnehbanGreatDoor

namespace Go.Proofs.YtbkjcccbjnehbanGreatDoor
open Go.RowKit
theorem drop_cons {L : List Sg} {p : Nat} {u : Sg} {r : List Sg} (h : L.drop p = u :: r) : p < L.length ∧ L.drop (p + 1) = r := by
 have hp : p < L.length := by
   rcases Nat.lt_or_ge p L.length with h' | h'
   · exact h'
   · rw [List.drop_eq_nil_of_le h'] at h; cases h
 rw [List.drop_eq_getElem_cons hp] at h
 exact ⟨hp, (List.cons.inj h).2⟩
set_option maxHeartbeats 8000000 in
set_option maxRecDepth 20000 in
theorem s_at_near (f g : Nat) (L : List Sg) (lv nv : Value) (e0 : Nat) (most : Int) (xk : Int) (xt : ByteArray) (xn : Int) (xa : Nat) (xb : Bool) (r : List Sg) (names : List ByteArray) (w : World) (hf : e0 + f = 130) (hL : L.length ≤ 3000) (HT : TermC f g L lv) (hxs : xt.size ≤ maxLen) (h : SRd g L lv nv w (some (e0, ⟨⟨xk, xt, xn, xa, xb⟩ :: r, names⟩))) (hxb : xb = true) (hnr0 : ∃ r', mk? cLpar r = some r') :
   Calls Tryz.prog 60 #[.pointer (some ⟨g, 0, none⟩), .int .i64 most] w fun e w' => ∃ v pr, e = .returned (.tuple #[v, .int .i64 pr]) ∧ TmR g L lv nv w v w' ((atomO true (termO true f) most ⟨xk, xt, xn, xa, xb⟩ r names).map fun y => (y.1, y.2.2)) e0 ∧ (∀ y, atomO true (termO true f) most ⟨xk, xt, xn, xa, xb⟩ r names = some y → pr = y.2.1) := by
 obtain ⟨r', hr'⟩ := hnr0
 have eR : atomO true (termO true f) most ⟨xk, xt, xn, xa, xb⟩ r names = (someO true (termO true f) [] ⟨r', names⟩).map fun y => (structTm xt y.1, 0, y.2) := by
   unfold atomO
   simp only [hxb, if_true]
   rw [hr']
   simp only
   cases someO true (termO true f) [] ⟨r', names⟩ <;> rfl
 rw [eR, Option.map_map]
 have HR' : Hid (mk? cLpar r = some r') := hr'
 have HF : Hid (e0 + f = 130) := hf
 have HTC : Hid (TermC f g L lv) := HT
 have HXB : Hid (xb = true) := hxb
 clear eR hr' hf HT hxb
 obtain ⟨W, hW⟩ : ∃ W, W = w.alloc (.cells #[.int .i64 0, .string ⟨#[]⟩, .int .i64 0, .slice none 0 0] 24) := ⟨_, rfl⟩
 have bW : Below w.heap.size w W := by rw [hW]; exact (Below.refl _ _).alloc (Nat.le_refl _) _
 have sW : W.heap.size = w.heap.size + 1 := by rw [hW]; simp
 have kW : W.heap[w.heap.size]? = some (.cells #[.int .i64 0, .string ⟨#[]⟩, .int .i64 0, .slice none 0 0] 24 (0, 0)) := by rw [hW]; exact heap_alloc_new _ _
 have HS0 : Hid (SRd g L lv nv w (some (e0, ⟨⟨xk, xt, xn, xa, xb⟩ :: r, names⟩))) := h
 have HSWW : Hid (SRd g L lv nv W (some (e0, ⟨⟨xk, xt, xn, xa, xb⟩ :: r, names⟩))) := h.keep bW
 have HKW : Hid (W.heap[w.heap.size]? = some (.cells #[.int .i64 0, .string ⟨#[]⟩, .int .i64 0, .slice none 0 0] 24 (0, 0))) := kW
 have HBW : Hid (Below w.heap.size w W) := bW
 have HSW : Hid (W.heap.size = w.heap.size + 1) := sW
 have HL : Hid (L.length ≤ 3000) := hL
 have HXS : Hid (xt.size ≤ maxLen) := hxs
 obtain ⟨p, lb, cap, rfl, hp, hd, hnm, hg, hl, hnr, k0, k1, k2, k3, k4, hlg⟩ := HSWW.out.sign
 obtain ⟨c0, c1, _, _, _, _⟩ := b5f hg
 obtain ⟨NL, hNL⟩ : ∃ NL, NL = L.length := ⟨_, rfl⟩
 rw [← hNL] at c0
 have hpN : p < NL := by omega
 have hp3 : (p : Int) ≤ 3000 := by omega
 have HNL : Hid (NL = L.length ∧ p < L.length ∧ L.drop (p + 1) = r ∧ names.length ≤ p) := ⟨hNL, hp, hd, hnm⟩
 have HC : Hid (∀ W', Below W.heap.size W W' → W'.cell? ⟨g, 0, none⟩ = some (.slice (some ⟨lb, 0, none⟩) NL cap) ∧ W'.cell? ⟨g, 1, none⟩ = some (.int .i64 (p : Int)) ∧ W'.cell? ⟨lb, p * 5, none⟩ = some (.int .i64 xk) ∧ W'.cell? ⟨lb, p * 5 + 1, none⟩ = some (.string xt) ∧ W'.cell? ⟨lb, p * 5 + 2, none⟩ = some (.int .i64 xn) ∧ W'.cell? ⟨lb, p * 5 + 3, none⟩ = some (.int .i64 (xa : Int)) ∧ W'.cell? ⟨lb, p * 5 + 4, none⟩ = some (.bool xb)) :=
   fun W' hb => ⟨cell_keep c0 hb, cell_keep c1 hb, cell_keep k0 hb, cell_keep k1 hb, cell_keep k2 hb, cell_keep k3 hb, cell_keep k4 hb⟩
 have HQ : Hid (∀ W', Below W.heap.size W W' → W'.heap[g]? = some (.cells #[.slice (some ⟨lb, 0, none⟩) L.length cap, .int .i64 (p : Int), .bool false, .int .i64 (e0 : Int), nv] 52 (0, 0)) ∧ LIn W' g L (.slice (some ⟨lb, 0, none⟩) L.length cap) ∧ NRow W' (g + 1) names nv) :=
   fun W' hb => ⟨(hb.block g HSWW.out.lt).trans hg, hl.turn fun k hk => hb.block k (by have := HSWW.out.lt; omega), hnr.turn fun b e => hb.block b (hnr.lt b e).2⟩
 clear h bW sW kW hL hxs c0 c1 hNL hp hd hnm hg hl hnr k0 k1 k2 k3 k4
 go_enter Tryz.func60, Tryz.ntmps60
 go_upto_region 1 with fail
 rw [← hW]
 clear hW
 refine wp_region_facts 11 (fun i v S w' => match i with
   | 0 => v = (Value.pointer (some ⟨g, 0, none⟩))
   | 1 => v = (Value.pointer (some ⟨g, 0, none⟩))
   | 2 => v = (Value.pointer (some ⟨g, 0, none⟩))
   | 3 => v = (Value.slice (some ⟨lb, 0, none⟩) NL cap)
   | 4 => v = (Value.pointer (some ⟨g, 0, none⟩))
   | 5 => v = (Value.pointer (some ⟨g, 0, none⟩))
   | 6 => v = (Value.pointer (some ⟨g, 1, none⟩))
   | 7 => v = (Value.int .i64 (p : Int))
   | 8 => v = (Value.pointer (some ⟨lb, p * 5, none⟩))
   | 9 => v = (Value.agg #[.int .i64 xk, .string xt, .int .i64 xn, .int .i64 (xa : Int), .bool xb])
   | _ => ∃ b, v = .pointer (some ⟨b, 0, none⟩) ∧ w'.heap[b]? = some (.cells #[.int .i64 0, .string ⟨#[]⟩, .int .i64 0, .int .i64 0, .bool false] 45 (0, 0)) ∧ W.heap.size ≤ b) (by kernel_rfl) (by kernel_rfl) 122 rfl (by kernel_rfl) ?_ ?_ ?_
 · intro i v S w w' hi h hb
   match i, hi, h with
   | 0, _, h => exact h
   | 1, _, h => exact h
   | 2, _, h => exact h
   | 3, _, h => exact h
   | 4, _, h => exact h
   | 5, _, h => exact h
   | 6, _, h => exact h
   | 7, _, h => exact h
   | 8, _, h => exact h
   | 9, _, h => exact h
   | 10, _, ⟨b, h1, h2, h3⟩ => exact ⟨b, h1, (hb.block b (Array.getElem?_eq_some_iff.1 h2).1).trans h2, h3⟩
 · intro i o hi ho a w' hb hfr hdep
   obtain ⟨y0, y1, z0, z1, z2, z3, z4⟩ := HC.out w' hb
   have u0 : a.tmps.getD 0 undef = (Value.pointer (some ⟨g, 0, none⟩)) := hfr 0 (by decide)
   match i, hi with
   | 0, _ =>
     obtain rfl : _ = o := by simpa using ho
     refine fact_value (w' := w') (v := (Value.pointer (some ⟨g, 0, none⟩))) ?_ (Below.refl _ _) ⟨[], rfl, by simp⟩
     simp only [execOp, Act.eval, u0]
     go_simp
   | 1, _ =>
     obtain rfl : _ = o := by simpa using ho
     obtain ⟨_, h0⟩ : ∃ _ : List Nat, a.tmps.getD 12 undef = (Value.pointer (some ⟨g, 0, none⟩)) := hdep 0 (by kernel_rfl)
     refine fact_value (w' := w') (v := (Value.pointer (some ⟨g, 0, none⟩))) ?_ (Below.refl _ _) ⟨[], rfl, by simp⟩
     simp only [execOp, Act.eval, h0]
     go_simp
   | 2, _ =>
     obtain rfl : _ = o := by simpa using ho
     obtain ⟨_, h1⟩ : ∃ _ : List Nat, a.tmps.getD 13 undef = (Value.pointer (some ⟨g, 0, none⟩)) := hdep 1 (by kernel_rfl)
     refine fact_value (w' := w') (v := (Value.pointer (some ⟨g, 0, none⟩))) ?_ (Below.refl _ _) ⟨[], rfl, by simp⟩
     simp only [execOp, Act.eval, h1]
     go_simp
   | 3, _ =>
     obtain rfl : _ = o := by simpa using ho
     obtain ⟨_, h2⟩ : ∃ _ : List Nat, a.tmps.getD 14 undef = (Value.pointer (some ⟨g, 0, none⟩)) := hdep 2 (by kernel_rfl)
     refine fact_value (w' := w') (v := (Value.slice (some ⟨lb, 0, none⟩) NL cap)) ?_ (Below.refl _ _) ⟨[], rfl, by simp⟩
     simp only [execOp, Act.eval, h2]
     go_simp
   | 4, _ =>
     obtain rfl : _ = o := by simpa using ho
     refine fact_value (w' := w') (v := (Value.pointer (some ⟨g, 0, none⟩))) ?_ (Below.refl _ _) ⟨[], rfl, by simp⟩
     simp only [execOp, Act.eval, u0]
     go_simp
   | 5, _ =>
     obtain rfl : _ = o := by simpa using ho
     obtain ⟨_, h4⟩ : ∃ _ : List Nat, a.tmps.getD 16 undef = (Value.pointer (some ⟨g, 0, none⟩)) := hdep 4 (by kernel_rfl)
     refine fact_value (w' := w') (v := (Value.pointer (some ⟨g, 0, none⟩))) ?_ (Below.refl _ _) ⟨[], rfl, by simp⟩
     simp only [execOp, Act.eval, h4]
     go_simp
   | 6, _ =>
     obtain rfl : _ = o := by simpa using ho
     obtain ⟨_, h5⟩ : ∃ _ : List Nat, a.tmps.getD 17 undef = (Value.pointer (some ⟨g, 0, none⟩)) := hdep 5 (by kernel_rfl)
     refine fact_value (w' := w') (v := (Value.pointer (some ⟨g, 1, none⟩))) ?_ (Below.refl _ _) ⟨[], rfl, by simp⟩
     simp only [execOp, Act.eval, h5]
     go_simp
   | 7, _ =>
     obtain rfl : _ = o := by simpa using ho
     obtain ⟨_, h6⟩ : ∃ _ : List Nat, a.tmps.getD 18 undef = (Value.pointer (some ⟨g, 1, none⟩)) := hdep 6 (by kernel_rfl)
     refine fact_value (w' := w') (v := (Value.int .i64 (p : Int))) ?_ (Below.refl _ _) ⟨[], rfl, by simp⟩
     simp only [execOp, Act.eval, h6]
     go_simp
   | 8, _ =>
     obtain rfl : _ = o := by simpa using ho
     obtain ⟨_, h3⟩ : ∃ _ : List Nat, a.tmps.getD 15 undef = (Value.slice (some ⟨lb, 0, none⟩) NL cap) := hdep 3 (by kernel_rfl)
     obtain ⟨_, h7⟩ : ∃ _ : List Nat, a.tmps.getD 19 undef = (Value.int .i64 (p : Int)) := hdep 7 (by kernel_rfl)
     refine fact_value (w' := w') (v := (Value.pointer (some ⟨lb, p * 5, none⟩))) ?_ (Below.refl _ _) ⟨[], rfl, by simp⟩
     simp only [execOp, Act.eval, h3, h7]
     go_simp
   | 9, _ =>
     obtain rfl : _ = o := by simpa using ho
     obtain ⟨_, h8⟩ : ∃ _ : List Nat, a.tmps.getD 20 undef = (Value.pointer (some ⟨lb, p * 5, none⟩)) := hdep 8 (by kernel_rfl)
     refine fact_value (w' := w') (v := (Value.agg #[.int .i64 xk, .string xt, .int .i64 xn, .int .i64 (xa : Int), .bool xb])) ?_ (Below.refl _ _) ⟨[], rfl, by simp⟩
     simp only [execOp, Act.eval, h8]
     go_simp
   | 10, _ =>
     obtain rfl : _ = o := by simpa using ho
     refine fact_value (w' := w'.alloc (.cells #[.int .i64 0, .string ⟨#[]⟩, .int .i64 0, .int .i64 0, .bool false] 45)) (v := .pointer (some ⟨w'.heap.size, 0, none⟩)) ?_ ((Below.refl _ _).alloc (Nat.le_refl _) _) ⟨[], ⟨w'.heap.size, rfl, heap_alloc_new _ _, hb.size⟩, by simp⟩
     simp only [execOp]
     go_simp
 intro vals S w1 hb hf _
 have v9 : vals 9 = .agg #[.int .i64 xk, .string xt, .int .i64 xn, .int .i64 (xa : Int), .bool xb] := (hf 9 (by omega)).1
 obtain ⟨B6, v10, hk6, hB6⟩ : ∃ b, vals 10 = .pointer (some ⟨b, 0, none⟩) ∧ w1.heap[b]? = some (.cells #[.int .i64 0, .string ⟨#[]⟩, .int .i64 0, .int .i64 0, .bool false] 45 (0, 0)) ∧ W.heap.size ≤ b := (hf 10 (by omega)).1
 simp only [putN, List.getElem?_toArray, List.getElem?_cons_zero, List.getElem?_cons_succ, Option.bind_some, List.drop_succ_cons, List.drop_zero, v9, v10]
 generalize vals 0 = m0
 generalize vals 1 = m1
 generalize vals 2 = m2
 generalize vals 3 = m3
 generalize vals 4 = m4
 generalize vals 5 = m5
 generalize vals 6 = m6
 generalize vals 7 = m7
 generalize vals 8 = m8
 simp only [Act.put, List.setIfInBounds_toArray, List.set_cons_succ, List.set_cons_zero]
 clear hf v9 v10
 obtain ⟨e0', e1', e2', e3', e4', ef⟩ := b5f hk6
 have ef0 := ef 0
 have ef1 := ef 1
 have ef2 := ef 2
 have ef3 := ef 3
 have ef4 := ef 4
 have HK6 : Hid _ := hk6
 have HB1 : Hid (Below W.heap.size W w1) := hb
 clear hk6 hb ef
 go_upto_region 2 with fail
 obtain ⟨V, hV⟩ : ∃ V, V = ((((w1.setCell ⟨B6, 0, none⟩ (.int .i64 xk)).setCell ⟨B6, 1, none⟩ (.string xt)).setCell ⟨B6, 2, none⟩ (.int .i64 xn)).setCell ⟨B6, 3, none⟩ (.int .i64 (xa : Int))).setCell ⟨B6, 4, none⟩ (.bool xb) := ⟨_, rfl⟩
 rw [← hV]
 have HBV : Hid (Below W.heap.size W V) := by rw [hV]; exact below_set (below_set (below_set (below_set (below_set HB1.out hB6 _) hB6 _) hB6 _) hB6 _) hB6 _
 have HKV : Hid (V.heap[B6]? = some (.cells #[.int .i64 xk, .string xt, .int .i64 xn, .int .i64 (xa : Int), .bool xb] 45 (0, 0))) := by
   rw [hV]
   have := set_at5 (i := 4) (set_at5 (i := 3) (set_at5 (i := 2) (set_at5 (i := 1) (set_at5 (i := 0) HK6.out (.int .i64 xk)) (.string xt)) (.int .i64 xn)) (.int .i64 (xa : Int))) (.bool xb)
   show _ = _
   simpa using this
 clear hV HK6 HB1 e0' e1' e2' e3' e4' ef0 ef1 ef2 ef3 ef4
 obtain ⟨d0, d1, d2, d3, d4, _⟩ := b5f HKV.out
 have HSV : Hid (SRd g L (.slice (some ⟨lb, 0, none⟩) L.length cap) nv V (some (e0, ⟨⟨xk, xt, xn, xa, xb⟩ :: r, names⟩))) := HSWW.out.keep HBV.out
 have HB6 : Hid (W.heap.size ≤ B6) := hB6
 have hB6V : B6 < V.heap.size := (Array.getElem?_eq_some_iff.1 HKV.out).1
 have HG0 := HQ.out V HBV.out
 obtain ⟨c0, c1, c2, c3, c4, cf⟩ := b5f HG0.1
 have f1 := cf 1
 have f2 := cf 2
 have hgV : g < V.heap.size := HSV.out.lt
 have hgB : g ≠ B6 := by have := HSWW.out.lt; omega
 clear cf HG0
 have hxb := HXB.out
 subst hxb
 go_upto_region 4 with fail
 obtain ⟨V3, hV3⟩ : ∃ V3, V3 = V.setCell ⟨g, 1, none⟩ (.int .i64 ((p : Int) + 2)) := ⟨_, rfl⟩
 rw [← hV3]
 obtain ⟨hNL, hp, hd, hnm⟩ := HNL.out
 obtain ⟨u, hu, _⟩ := mk?_cons HR'.out
 rw [hu] at hd
 obtain ⟨hp1, hd2⟩ := drop_cons hd
 obtain ⟨hgq, hlq, hnq⟩ := HQ.out V HBV.out
 have S3 : SRd g L (.slice (some ⟨lb, 0, none⟩) L.length cap) nv V3 (some (e0, ⟨r', names⟩)) := by
   rw [hV3]; exact SRd.go 2 hgq hlq hnq (by omega) hd2 hnm (by omega)
 have HX3 : Hid (FX (XS g nv) (XS g nv) W V3) := by rw [hV3]; exact (FX.of_below HBV.out).trans (FX.set_g _)
 have hk3 : V3.heap[B6]? = some (.cells #[.int .i64 xk, .string xt, .int .i64 xn, .int .i64 (xa : Int), .bool true] 45 (0, 0)) := by rw [hV3, set_oth5 _ (Ne.symm hgB)]; exact HKV.out
 obtain ⟨d0, d1, d2, d3, d4, _⟩ := b5f hk3
 have HSM : Hid _ := s_some f g L _ nv e0 ⟨r', names⟩ xt V3 HF.out HL.out HTC.out HXS.out S3
 clear hV3 hNL hp hd hnm hu hp1 hd2 hgq hlq hnq S3 hk3 c0 c1 c2 c3 c4 f1 f2
 go_wp2_with (go_at_call 77; go_loud (refine Calls.mono HSM.out ?_); rintro e w4 ⟨v, rfl, t, F, nv', ht, hR, hs, hx⟩; have HT4 : Hid (TOk 24 (XS g nv') V3.heap.size w4 t v F) := ht; have HR4 : Hid _ := hR; have HS4 : Hid _ := hs; have HXT : Hid (FX (XS g nv) (XS g nv') W w4) := HX3.out.trans hx; obtain ⟨h1, h2, h3, h4, h5, h6, rfl⟩ := ht.form; have hk := res_keep HS0.out HSW.out HXT.out HKW.out; obtain ⟨z0, z1, z2, z3, q0, q1, q2, q3⟩ := blk4 hk; clear ht hR hs hx)
 refine bodyPost_ret_by (results_ct2 rfl _ _ w.heap.size 24 _ (0, 0) _ rfl (blk4_set hk) Tryz.underlying24 rfl (by kernel_rfl)) rfl ?_
 refine ⟨_, 0, rfl, TmR.fin HS0.out HBW.out HSW.out HXT.out (HT4.out.lo_le HX3.out.size) ?_ ?_, ?_⟩
 · exact HR4.out
 · exact HS4.out
 · intro y hy; obtain ⟨z, _, rfl⟩ := Option.map_eq_some_iff.1 hy; rfl
end Go.Proofs.YtbkjcccbjnehbanGreatDoor

namespace Go.Proofs.YtbkjcccbjnehbanGreatDoor
open Go.RowKit
theorem wrap64_rng (n : Int) : -9223372036854775808 ≤ wrap64 n ∧ wrap64 n ≤ 9223372036854775807 := by unfold wrap64; omega
set_option maxHeartbeats 8000000 in
set_option maxRecDepth 20000 in
theorem s_at_minus (f g : Nat) (L : List Sg) (lv nv : Value) (e0 : Nat) (most : Int) (xk : Int) (xt : ByteArray) (xn : Int) (xa : Nat) (xb : Bool) (r : List Sg) (names : List ByteArray) (w : World) (hL : L.length ≤ 3000) (hxa : xa ≤ 100000) (h : SRd g L lv nv w (some (e0, ⟨⟨xk, xt, xn, xa, xb⟩ :: r, names⟩))) (hxb : xb = false) (hxm : xt = cMinus) (hno : nearO ⟨xk, xt, xn, xa, xb⟩ r = true) :
   Calls Tryz.prog 60 #[.pointer (some ⟨g, 0, none⟩), .int .i64 most] w fun e w' => ∃ v pr, e = .returned (.tuple #[v, .int .i64 pr]) ∧ TmR g L lv nv w v w' ((atomO true (termO true f) most ⟨xk, xt, xn, xa, xb⟩ r names).map fun y => (y.1, y.2.2)) e0 ∧ (∀ y, atomO true (termO true f) most ⟨xk, xt, xn, xa, xb⟩ r names = some y → pr = y.2.1) := by
 obtain ⟨u, r2, hr⟩ : ∃ u r2, r = u :: r2 := by
   cases r with
   | nil => cases hno
   | cons u r2 => exact ⟨u, r2, rfl⟩
 have eR : atomO true (termO true f) most ⟨xk, xt, xn, xa, xb⟩ r names = some (intTm (wrap64 (-u.num)), 0, ⟨r2, names⟩) := by
   unfold atomO
   simp only [hxb, Bool.false_eq_true, if_false]
   rw [hxb] at hno
   rw [if_pos ⟨hxm, hno⟩, hr]
   rfl
 obtain ⟨un, hun⟩ : ∃ un, un = u.num := ⟨_, rfl⟩
 rw [eR, ← hun]
 have HUN : Hid (un = u.num) := hun
 have HR' : Hid (r = u :: r2) := hr
 have HXB : Hid (xb = false) := hxb
 have HNO : Hid (nearO ⟨xk, xt, xn, xa, xb⟩ r = true) := hno
 have em : (xt.toList == [45]) = true := by rw [hxm, ByteArray.toList_eq]; rfl
 have HXA : Hid (xa ≤ 100000) := hxa
 clear eR hr hun hxb hno hxm hxa
 obtain ⟨W, hW⟩ : ∃ W, W = w.alloc (.cells #[.int .i64 0, .string ⟨#[]⟩, .int .i64 0, .slice none 0 0] 24) := ⟨_, rfl⟩
 have bW : Below w.heap.size w W := by rw [hW]; exact (Below.refl _ _).alloc (Nat.le_refl _) _
 have sW : W.heap.size = w.heap.size + 1 := by rw [hW]; simp
 have kW : W.heap[w.heap.size]? = some (.cells #[.int .i64 0, .string ⟨#[]⟩, .int .i64 0, .slice none 0 0] 24 (0, 0)) := by rw [hW]; exact heap_alloc_new _ _
 have HS0 : Hid (SRd g L lv nv w (some (e0, ⟨⟨xk, xt, xn, xa, xb⟩ :: r, names⟩))) := h
 have HSWW : Hid (SRd g L lv nv W (some (e0, ⟨⟨xk, xt, xn, xa, xb⟩ :: r, names⟩))) := h.keep bW
 have HKW : Hid (W.heap[w.heap.size]? = some (.cells #[.int .i64 0, .string ⟨#[]⟩, .int .i64 0, .slice none 0 0] 24 (0, 0))) := kW
 have HBW : Hid (Below w.heap.size w W) := bW
 have HSW : Hid (W.heap.size = w.heap.size + 1) := sW
 have HL : Hid (L.length ≤ 3000) := hL
 obtain ⟨p, lb, cap, rfl, hp, hd, hnm, hg, hl, hnr, k0, k1, k2, k3, k4, hlg⟩ := HSWW.out.sign
 obtain ⟨c0, c1, _, _, _, _⟩ := b5f hg
 obtain ⟨NL, hNL⟩ : ∃ NL, NL = L.length := ⟨_, rfl⟩
 rw [← hNL] at c0
 have hpN : p < NL := by omega
 have hp3 : (p : Int) ≤ 3000 := by omega
 have HNL : Hid (NL = L.length ∧ p < L.length ∧ L.drop (p + 1) = r ∧ names.length ≤ p) := ⟨hNL, hp, hd, hnm⟩
 have HC : Hid (∀ W', Below W.heap.size W W' → W'.cell? ⟨g, 0, none⟩ = some (.slice (some ⟨lb, 0, none⟩) NL cap) ∧ W'.cell? ⟨g, 1, none⟩ = some (.int .i64 (p : Int)) ∧ W'.cell? ⟨lb, p * 5, none⟩ = some (.int .i64 xk) ∧ W'.cell? ⟨lb, p * 5 + 1, none⟩ = some (.string xt) ∧ W'.cell? ⟨lb, p * 5 + 2, none⟩ = some (.int .i64 xn) ∧ W'.cell? ⟨lb, p * 5 + 3, none⟩ = some (.int .i64 (xa : Int)) ∧ W'.cell? ⟨lb, p * 5 + 4, none⟩ = some (.bool xb)) :=
   fun W' hb => ⟨cell_keep c0 hb, cell_keep c1 hb, cell_keep k0 hb, cell_keep k1 hb, cell_keep k2 hb, cell_keep k3 hb, cell_keep k4 hb⟩
 have HQ : Hid (∀ W', Below W.heap.size W W' → W'.heap[g]? = some (.cells #[.slice (some ⟨lb, 0, none⟩) L.length cap, .int .i64 (p : Int), .bool false, .int .i64 (e0 : Int), nv] 52 (0, 0)) ∧ LIn W' g L (.slice (some ⟨lb, 0, none⟩) L.length cap) ∧ NRow W' (g + 1) names nv) :=
   fun W' hb => ⟨(hb.block g HSWW.out.lt).trans hg, hl.turn fun k hk => hb.block k (by have := HSWW.out.lt; omega), hnr.turn fun b e => hb.block b (hnr.lt b e).2⟩
 clear h bW sW kW hL c0 c1 hNL hp hd hnm hg hl hnr k0 k1 k2 k3 k4
 go_enter Tryz.func60, Tryz.ntmps60
 go_upto_region 1 with fail
 rw [← hW]
 clear hW
 refine wp_region_facts 11 (fun i v S w' => match i with
   | 0 => v = (Value.pointer (some ⟨g, 0, none⟩))
   | 1 => v = (Value.pointer (some ⟨g, 0, none⟩))
   | 2 => v = (Value.pointer (some ⟨g, 0, none⟩))
   | 3 => v = (Value.slice (some ⟨lb, 0, none⟩) NL cap)
   | 4 => v = (Value.pointer (some ⟨g, 0, none⟩))
   | 5 => v = (Value.pointer (some ⟨g, 0, none⟩))
   | 6 => v = (Value.pointer (some ⟨g, 1, none⟩))
   | 7 => v = (Value.int .i64 (p : Int))
   | 8 => v = (Value.pointer (some ⟨lb, p * 5, none⟩))
   | 9 => v = (Value.agg #[.int .i64 xk, .string xt, .int .i64 xn, .int .i64 (xa : Int), .bool xb])
   | _ => ∃ b, v = .pointer (some ⟨b, 0, none⟩) ∧ w'.heap[b]? = some (.cells #[.int .i64 0, .string ⟨#[]⟩, .int .i64 0, .int .i64 0, .bool false] 45 (0, 0)) ∧ W.heap.size ≤ b) (by kernel_rfl) (by kernel_rfl) 122 rfl (by kernel_rfl) ?_ ?_ ?_
 · intro i v S w w' hi h hb
   match i, hi, h with
   | 0, _, h => exact h
   | 1, _, h => exact h
   | 2, _, h => exact h
   | 3, _, h => exact h
   | 4, _, h => exact h
   | 5, _, h => exact h
   | 6, _, h => exact h
   | 7, _, h => exact h
   | 8, _, h => exact h
   | 9, _, h => exact h
   | 10, _, ⟨b, h1, h2, h3⟩ => exact ⟨b, h1, (hb.block b (Array.getElem?_eq_some_iff.1 h2).1).trans h2, h3⟩
 · intro i o hi ho a w' hb hfr hdep
   obtain ⟨y0, y1, z0, z1, z2, z3, z4⟩ := HC.out w' hb
   have u0 : a.tmps.getD 0 undef = (Value.pointer (some ⟨g, 0, none⟩)) := hfr 0 (by decide)
   match i, hi with
   | 0, _ =>
     obtain rfl : _ = o := by simpa using ho
     refine fact_value (w' := w') (v := (Value.pointer (some ⟨g, 0, none⟩))) ?_ (Below.refl _ _) ⟨[], rfl, by simp⟩
     simp only [execOp, Act.eval, u0]
     go_simp
   | 1, _ =>
     obtain rfl : _ = o := by simpa using ho
     obtain ⟨_, h0⟩ : ∃ _ : List Nat, a.tmps.getD 12 undef = (Value.pointer (some ⟨g, 0, none⟩)) := hdep 0 (by kernel_rfl)
     refine fact_value (w' := w') (v := (Value.pointer (some ⟨g, 0, none⟩))) ?_ (Below.refl _ _) ⟨[], rfl, by simp⟩
     simp only [execOp, Act.eval, h0]
     go_simp
   | 2, _ =>
     obtain rfl : _ = o := by simpa using ho
     obtain ⟨_, h1⟩ : ∃ _ : List Nat, a.tmps.getD 13 undef = (Value.pointer (some ⟨g, 0, none⟩)) := hdep 1 (by kernel_rfl)
     refine fact_value (w' := w') (v := (Value.pointer (some ⟨g, 0, none⟩))) ?_ (Below.refl _ _) ⟨[], rfl, by simp⟩
     simp only [execOp, Act.eval, h1]
     go_simp
   | 3, _ =>
     obtain rfl : _ = o := by simpa using ho
     obtain ⟨_, h2⟩ : ∃ _ : List Nat, a.tmps.getD 14 undef = (Value.pointer (some ⟨g, 0, none⟩)) := hdep 2 (by kernel_rfl)
     refine fact_value (w' := w') (v := (Value.slice (some ⟨lb, 0, none⟩) NL cap)) ?_ (Below.refl _ _) ⟨[], rfl, by simp⟩
     simp only [execOp, Act.eval, h2]
     go_simp
   | 4, _ =>
     obtain rfl : _ = o := by simpa using ho
     refine fact_value (w' := w') (v := (Value.pointer (some ⟨g, 0, none⟩))) ?_ (Below.refl _ _) ⟨[], rfl, by simp⟩
     simp only [execOp, Act.eval, u0]
     go_simp
   | 5, _ =>
     obtain rfl : _ = o := by simpa using ho
     obtain ⟨_, h4⟩ : ∃ _ : List Nat, a.tmps.getD 16 undef = (Value.pointer (some ⟨g, 0, none⟩)) := hdep 4 (by kernel_rfl)
     refine fact_value (w' := w') (v := (Value.pointer (some ⟨g, 0, none⟩))) ?_ (Below.refl _ _) ⟨[], rfl, by simp⟩
     simp only [execOp, Act.eval, h4]
     go_simp
   | 6, _ =>
     obtain rfl : _ = o := by simpa using ho
     obtain ⟨_, h5⟩ : ∃ _ : List Nat, a.tmps.getD 17 undef = (Value.pointer (some ⟨g, 0, none⟩)) := hdep 5 (by kernel_rfl)
     refine fact_value (w' := w') (v := (Value.pointer (some ⟨g, 1, none⟩))) ?_ (Below.refl _ _) ⟨[], rfl, by simp⟩
     simp only [execOp, Act.eval, h5]
     go_simp
   | 7, _ =>
     obtain rfl : _ = o := by simpa using ho
     obtain ⟨_, h6⟩ : ∃ _ : List Nat, a.tmps.getD 18 undef = (Value.pointer (some ⟨g, 1, none⟩)) := hdep 6 (by kernel_rfl)
     refine fact_value (w' := w') (v := (Value.int .i64 (p : Int))) ?_ (Below.refl _ _) ⟨[], rfl, by simp⟩
     simp only [execOp, Act.eval, h6]
     go_simp
   | 8, _ =>
     obtain rfl : _ = o := by simpa using ho
     obtain ⟨_, h3⟩ : ∃ _ : List Nat, a.tmps.getD 15 undef = (Value.slice (some ⟨lb, 0, none⟩) NL cap) := hdep 3 (by kernel_rfl)
     obtain ⟨_, h7⟩ : ∃ _ : List Nat, a.tmps.getD 19 undef = (Value.int .i64 (p : Int)) := hdep 7 (by kernel_rfl)
     refine fact_value (w' := w') (v := (Value.pointer (some ⟨lb, p * 5, none⟩))) ?_ (Below.refl _ _) ⟨[], rfl, by simp⟩
     simp only [execOp, Act.eval, h3, h7]
     go_simp
   | 9, _ =>
     obtain rfl : _ = o := by simpa using ho
     obtain ⟨_, h8⟩ : ∃ _ : List Nat, a.tmps.getD 20 undef = (Value.pointer (some ⟨lb, p * 5, none⟩)) := hdep 8 (by kernel_rfl)
     refine fact_value (w' := w') (v := (Value.agg #[.int .i64 xk, .string xt, .int .i64 xn, .int .i64 (xa : Int), .bool xb])) ?_ (Below.refl _ _) ⟨[], rfl, by simp⟩
     simp only [execOp, Act.eval, h8]
     go_simp
   | 10, _ =>
     obtain rfl : _ = o := by simpa using ho
     refine fact_value (w' := w'.alloc (.cells #[.int .i64 0, .string ⟨#[]⟩, .int .i64 0, .int .i64 0, .bool false] 45)) (v := .pointer (some ⟨w'.heap.size, 0, none⟩)) ?_ ((Below.refl _ _).alloc (Nat.le_refl _) _) ⟨[], ⟨w'.heap.size, rfl, heap_alloc_new _ _, hb.size⟩, by simp⟩
     simp only [execOp]
     go_simp
 intro vals S w1 hb hf _
 have v9 : vals 9 = .agg #[.int .i64 xk, .string xt, .int .i64 xn, .int .i64 (xa : Int), .bool xb] := (hf 9 (by omega)).1
 obtain ⟨B6, v10, hk6, hB6⟩ : ∃ b, vals 10 = .pointer (some ⟨b, 0, none⟩) ∧ w1.heap[b]? = some (.cells #[.int .i64 0, .string ⟨#[]⟩, .int .i64 0, .int .i64 0, .bool false] 45 (0, 0)) ∧ W.heap.size ≤ b := (hf 10 (by omega)).1
 simp only [putN, List.getElem?_toArray, List.getElem?_cons_zero, List.getElem?_cons_succ, Option.bind_some, List.drop_succ_cons, List.drop_zero, v9, v10]
 generalize vals 0 = m0
 generalize vals 1 = m1
 generalize vals 2 = m2
 generalize vals 3 = m3
 generalize vals 4 = m4
 generalize vals 5 = m5
 generalize vals 6 = m6
 generalize vals 7 = m7
 generalize vals 8 = m8
 simp only [Act.put, List.setIfInBounds_toArray, List.set_cons_succ, List.set_cons_zero]
 clear hf v9 v10
 obtain ⟨e0', e1', e2', e3', e4', ef⟩ := b5f hk6
 have ef0 := ef 0
 have ef1 := ef 1
 have ef2 := ef 2
 have ef3 := ef 3
 have ef4 := ef 4
 have HK6 : Hid _ := hk6
 have HB1 : Hid (Below W.heap.size W w1) := hb
 clear hk6 hb ef
 go_upto_region 2 with fail
 obtain ⟨V, hV⟩ : ∃ V, V = ((((w1.setCell ⟨B6, 0, none⟩ (.int .i64 xk)).setCell ⟨B6, 1, none⟩ (.string xt)).setCell ⟨B6, 2, none⟩ (.int .i64 xn)).setCell ⟨B6, 3, none⟩ (.int .i64 (xa : Int))).setCell ⟨B6, 4, none⟩ (.bool xb) := ⟨_, rfl⟩
 rw [← hV]
 have HBV : Hid (Below W.heap.size W V) := by rw [hV]; exact below_set (below_set (below_set (below_set (below_set HB1.out hB6 _) hB6 _) hB6 _) hB6 _) hB6 _
 have HKV : Hid (V.heap[B6]? = some (.cells #[.int .i64 xk, .string xt, .int .i64 xn, .int .i64 (xa : Int), .bool xb] 45 (0, 0))) := by
   rw [hV]
   have := set_at5 (i := 4) (set_at5 (i := 3) (set_at5 (i := 2) (set_at5 (i := 1) (set_at5 (i := 0) HK6.out (.int .i64 xk)) (.string xt)) (.int .i64 xn)) (.int .i64 (xa : Int))) (.bool xb)
   show _ = _
   simpa using this
 clear hV HK6 HB1 e0' e1' e2' e3' e4' ef0 ef1 ef2 ef3 ef4
 obtain ⟨d0, d1, d2, d3, d4, _⟩ := b5f HKV.out
 have HSV : Hid (SRd g L (.slice (some ⟨lb, 0, none⟩) L.length cap) nv V (some (e0, ⟨⟨xk, xt, xn, xa, xb⟩ :: r, names⟩))) := HSWW.out.keep HBV.out
 have HB6 : Hid (W.heap.size ≤ B6) := hB6
 have hB6V : B6 < V.heap.size := (Array.getElem?_eq_some_iff.1 HKV.out).1
 have HG0 := HQ.out V HBV.out
 obtain ⟨c0, c1, c2, c3, c4, cf⟩ := b5f HG0.1
 have f1 := cf 1
 have f2 := cf 2
 have hgV : g < V.heap.size := HSV.out.lt
 have hgB : g ≠ B6 := by have := HSWW.out.lt; omega
 clear cf HG0
 have hxb := HXB.out
 subst hxb
 have HNE := s_near g L _ nv e0 _ _ _ V HL.out HXA.out HSV.out
 rw [HNO.out] at HNE
 have HNE : Hid _ := HNE
 go_upto_region 6 with (go_at_call 78; go_loud (refine Calls.mono HNE.out ?_); rintro e w5 ⟨rfl, hb⟩; have HB5 : Hid (Below V.heap.size V w5) := hb; clear hb)
 have HB5W : Hid (Below W.heap.size W w5) := HBV.out.trans (HB5.out.mono HBV.out.size)
 clear c0 c1 c2 c3 c4 f1 f2 d0 d1 d2 d3 d4 em
 have HG0 := HQ.out w5 HB5W.out
 obtain ⟨c0, c1, c2, c3, c4, cf⟩ := b5f HG0.1
 have f1 := cf 1
 clear HG0 cf
 go_upto_region 7 with fail
 obtain ⟨V3, hV3⟩ : ∃ V3, V3 = w5.setCell ⟨g, 1, none⟩ (.int .i64 ((p : Int) + 2)) := ⟨_, rfl⟩
 rw [← hV3]
 obtain ⟨hNL, hp, hd, hnm⟩ := HNL.out
 rw [HR'.out] at hd
 obtain ⟨hp1, hd2⟩ := drop_cons hd
 obtain ⟨hgq, hlq, hnq⟩ := HQ.out w5 HB5W.out
 have S3 : SRd g L (.slice (some ⟨lb, 0, none⟩) L.length cap) nv V3 (some (e0, ⟨r2, names⟩)) := by
   rw [hV3]; exact SRd.go 2 hgq hlq hnq (by omega) hd2 hnm (by omega)
 have HX3 : Hid (FX (XS g nv) (XS g nv) W V3) := by rw [hV3]; exact (FX.of_below HB5W.out).trans (FX.set_g _)
 have HS3 : Hid _ := S3
 have gV : V3.heap[g]? = some (.cells #[.slice (some ⟨lb, 0, none⟩) L.length cap, .int .i64 ((p : Int) + 2), .bool false, .int .i64 (e0 : Int), nv] 52 (0, 0)) := by
   rw [hV3]; have := set_at5 (i := 1) hgq (.int .i64 ((p : Int) + 2)); simpa using this
 obtain ⟨c0, c1, _, _, _, _⟩ := b5f gV
 rw [← hNL] at c0
 have hSV2 := HSV.out
 rw [HR'.out] at hSV2
 obtain ⟨p', q, lb', cap', hq', he', hq2, _, _, _, hg', _, _, _, _, _, _, _, m0, m1, m2, m3, m4, hlg'⟩ := hSV2.sign2
 have hpp : p' = p := by
   have h1 := (HQ.out V HBV.out).1
   rw [h1] at hg'
   simp at hg'
   omega
 have hll : lb' = lb := by simp at he'; omega
 have m2' : V3.cell? ⟨lb, q * 5 + 2, none⟩ = some (.int .i64 u.num) := by
   rw [hV3, World.cell?_of_block (set_oth5 _ (by show lb ≠ g; omega))]
   rw [← hll]; exact cell_keep m2 HB5.out
 rw [← HUN.out] at m2'
 have hqN : q < NL := by omega
 have hsub : ((p : Int) + 2) - 1 = (q : Int) := by omega
 have y0 := fun u => cell_keep c0 (later_below V3 u)
 have y1 := fun u => cell_keep c1 (later_below V3 u)
 have y2 := fun u => cell_keep m2' (later_below V3 u)
 have HA : Hid _ := fun wq => s_num (XS g nv) (wrap64 (-un)) wq (wrap64_rng _)
 clear hV3 hNL hp hd hnm hp1 hd2 hgq hlq hnq S3 c0 c1 gV hSV2 hq' he' hq2 hg' m0 m1 m2 m3 m4 hlg' hpp hll m2' f1 hgB hB6V hB6 hgV
 refine wp_region_tail 13 (by kernel_rfl) (by kernel_rfl) ?_
 simp only [List.take_succ_cons, List.take_zero, List.drop_succ_cons, List.drop_zero]
 repeat (go_big_quiet_step (skip))
 refine wpQuiet_nil ?_
 rintro _ ⟨u3, rfl⟩
 have HB3 : Hid (Below V3.heap.size V3 (later V3 u3)) := later_below V3 u3
 clear y0 y1 y2
 generalize later V3 u3 = w3 at *
 go_wp2_with (go_at_call 64; go_loud (refine Calls.mono (HA.out _) ?_); rintro e w4 ⟨v, rfl, ht, hb⟩; have HT4 : Hid (TOk 24 (XS g nv) w3.heap.size w4 (intTm (wrap64 (-un))) v []) := ht; have HB4 : Hid (Below w3.heap.size w3 w4) := hb; have HXT : Hid (FX (XS g nv) (XS g nv) W w4) := (HX3.out.trans (FX.of_below HB3.out)).trans (FX.of_below hb); obtain ⟨h1, h2, h3, h4, h5, h6, rfl⟩ := ht.form; have hk := res_keep HS0.out HSW.out HXT.out HKW.out; obtain ⟨z0, z1, z2, z3, q0, q1, q2, q3⟩ := blk4 hk; clear ht hb)
 refine bodyPost_ret_by (results_ct2 rfl _ _ w.heap.size 24 _ (0, 0) _ rfl (blk4_set hk) Tryz.underlying24 rfl (by kernel_rfl)) rfl ?_
 refine ⟨_, 0, rfl, TmR.fin HS0.out HBW.out HSW.out HXT.out (HT4.out.lo_le ?_) (fun y hy => by cases hy; rfl) ((HS3.out.keep HB3.out).keep HB4.out), fun y hy => by cases hy; rfl⟩
 have := HX3.out.size
 have := HB3.out.size
 omega
end Go.Proofs.YtbkjcccbjnehbanGreatDoor
