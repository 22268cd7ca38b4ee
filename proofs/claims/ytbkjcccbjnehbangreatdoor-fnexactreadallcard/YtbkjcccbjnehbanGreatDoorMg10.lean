import Derived.Test.YtbkjcccbjnehbanGreatDoorMg3
import Derived.Test.YtbkjcccbjnehbanGreatDoorMg9
import Derived.WalkSmall
namespace Go.Proofs.YtbkjcccbjnehbanGreatDoor
open Go.RowKit
namespace FZ
def dst? (ops : Array Oper) (i : Nat) : Option Nat := (ops[i]?).bind (·.dst)
def valAt (ops : Array Oper) (a : Act) (i : Nat) : Value := match dst? ops i with | some d => a.tmps.getD d undef | none => undef
def factsB (ops : Array Oper) (n : Nat) : Bool :=
 decide (n ≤ ops.size) && (decide (n = ops.size) || Region.sinkB .any ops n) && Region.chainB .any ops n && Region.seqB .any ops (ops.size - n) n (firstN ops.size n) &&
 (List.range n).all (fun i => match ops[i]? with | some o => o.guard.isNone && o.after.all (fun e => !Region.binds .any e || decide (e.on < i)) && ((List.range i).all fun j => o.dst.isNone || dst? ops j != o.dst) | none => false)
structure FrameAt (ops : Array Oper) (n : Nat) (a0 a : Act) : Prop where
 size : a.tmps.size = a0.tmps.size
 defers : a.defers = a0.defers
 same : ∀ s, (∀ i, i < n → dst? ops i ≠ some s) → a.tmps.getD s undef = a0.tmps.getD s undef
def putN (ops : Array Oper) (a0 : Act) (vals : Nat → Value) : Nat → Act
 | 0 => a0
 | k + 1 => (putN ops a0 vals k).put ((ops[k]?).bind (·.dst)) (vals k)
section
variable {P : Program} {ops : Array Oper} {Q : Exit → Act → World → Prop} {n : Nat}
theorem put_get2 {a : Act} {o : Option Nat} {s : Nat} {v : Value} (hd : ∀ d, o = some d → d < a.tmps.size) : (a.put o v).tmps.getD s undef = if o = some s then v else a.tmps.getD s undef := by
 cases o with
 | none => simp [Act.put]
 | some d =>
   rw [put_getD (hd d rfl)]
   by_cases h : d = s
   · subst h; simp
   · rw [if_neg h, if_neg (fun e => h (Option.some.inj e))]
theorem put_size2 {a : Act} {o : Option Nat} {v : Value} : (a.put o v).tmps.size = a.tmps.size := by cases o <;> simp [Act.put]
theorem put_defers2 {a : Act} {o : Option Nat} {v : Value} : (a.put o v).defers = a.defers := by cases o <;> rfl
structure FactsOk (ops : Array Oper) (n : Nat) : Prop where
 lt : n ≤ ops.size
 sink : n < ops.size → Region.sinkB .any ops n = true
 chain : Region.chainB .any ops n = true
 seq : Region.seqB .any ops (ops.size - n) n (firstN ops.size n) = true
 ops : ∀ i, i < n → ∃ o, ops[i]? = some o ∧ o.guard = none ∧ dst? ops i = o.dst ∧ (∀ e ∈ o.after, Region.binds .any e = true → e.on < i) ∧ ∀ j, j < i → ∀ d, o.dst = some d → dst? ops j ≠ some d
theorem factsOk_of (h : factsB ops n = true) : FactsOk ops n := by
 unfold factsB at h
 simp only [Bool.and_eq_true, decide_eq_true_eq] at h
 obtain ⟨⟨⟨⟨h1, h2⟩, h3⟩, h4⟩, h5⟩ := h
 refine ⟨h1, fun hlt => (by rw [decide_eq_false (by omega), Bool.false_or] at h2; exact h2), h3, h4, fun i hi => ?_⟩
 have h6 := List.all_eq_true.1 h5 i (by simpa using hi)
 cases ho : ops[i]? with
 | none => rw [ho] at h6; cases h6
 | some o =>
   rw [ho] at h6
   simp only [Bool.and_eq_true] at h6
   obtain ⟨⟨h7, h9⟩, h10⟩ := h6
   refine ⟨o, rfl, by simpa using h7, by unfold dst?; rw [ho]; rfl, fun e he hb => ?_, fun j hj d hd => ?_⟩
   · obtain ⟨q, hq, rfl⟩ := Array.mem_iff_getElem.1 he
     have := Array.all_eq_true.1 h9 q hq
     rw [hb] at this
     simpa using this
   · have := List.all_eq_true.1 h10 j (by simpa using hj)
     rw [hd] at this
     simpa using this
theorem putN_at (hf : FactsOk ops n) {a0 : Act} (hsz : ∀ i d, i < n → dst? ops i = some d → d < a0.tmps.size) (vals : Nat → Value) : ∀ k, k ≤ n →
   (putN ops a0 vals k).tmps.size = a0.tmps.size ∧ (putN ops a0 vals k).defers = a0.defers ∧ (∀ i d, i < k → dst? ops i = some d → (putN ops a0 vals k).tmps.getD d undef = vals i) ∧ ∀ s, (∀ i, i < k → dst? ops i ≠ some s) → (putN ops a0 vals k).tmps.getD s undef = a0.tmps.getD s undef
 | 0, _ => ⟨rfl, rfl, fun i _ hi => absurd hi (Nat.not_lt_zero _), fun _ _ => rfl⟩
 | k + 1, hk => by
   obtain ⟨h1, h2, h3, h4⟩ := putN_at hf hsz vals k (by omega)
   obtain ⟨o, ho, _, hdd, _, hne⟩ := hf.ops k (by omega)
   have e : putN ops a0 vals (k + 1) = (putN ops a0 vals k).put o.dst (vals k) := by
     show (putN ops a0 vals k).put ((ops[k]?).bind (·.dst)) (vals k) = _
     rw [ho]; rfl
   have hb : ∀ d, o.dst = some d → d < (putN ops a0 vals k).tmps.size := fun d hd => by rw [h1]; exact hsz k d (by omega) (by rw [hdd]; exact hd)
   rw [e]
   refine ⟨by rw [put_size2]; exact h1, by rw [put_defers2]; exact h2, fun i d hi hd => ?_, fun s hs => ?_⟩
   · rw [put_get2 hb]
     by_cases hik : i = k
     · subst hik; rw [if_pos (by rw [← hdd]; exact hd)]
     · rw [if_neg (fun e => hne i (by omega) d e hd)]
       exact h3 i d (by omega) hd
   · rw [put_get2 hb, if_neg (fun e => hs k (by omega) (by rw [hdd]; exact e))]
     exact h4 s fun i hi => hs i (by omega)
theorem frame_putN (hf : FactsOk ops n) {a0 a : Act} (hsz : ∀ i d, i < n → dst? ops i = some d → d < a0.tmps.size) (h : FrameAt ops n a0 a) : a = putN ops a0 (valAt ops a) n := by
 obtain ⟨h1, h2, h3, h4⟩ := putN_at hf hsz (valAt ops a) n (Nat.le_refl _)
 have hv : ∀ i d, dst? ops i = some d → valAt ops a i = a.tmps.getD d undef := fun i d hd => by unfold valAt; rw [hd]
 generalize putN ops a0 (valAt ops a) n = b at *
 have hg : ∀ s, a.tmps.getD s undef = b.tmps.getD s undef := fun s => by
   by_cases hs : ∃ i, i < n ∧ dst? ops i = some s
   · obtain ⟨i, hi, hd⟩ := hs
     rw [h3 i s hi hd, hv i s hd]
   · have hs' : ∀ i, i < n → dst? ops i ≠ some s := fun i hi e => hs ⟨i, hi, e⟩
     rw [h.same s hs', h4 s hs']
 obtain ⟨at', ad⟩ := a
 obtain ⟨bt, bd⟩ := b
 have e2 : ad = bd := h.defers.trans h2.symm
 have e1 : at' = bt := by
   apply Array.ext
   · exact h.size.trans h1.symm
   · intro i hi1 hi2
     have := hg i
     simpa [Array.getD, hi1, hi2] using this
 subst e1 e2
 rfl
def Closed (ops : Array Oper) (L : Nat → Bool) : Prop := ∀ i o, ops[i]? = some o → L i = true → ∀ j, waitsOn o j = true → L j = true
theorem closed_of {listed : Array Bool} (h : HeadInv .any ops n listed) : Closed ops fun i => listed.getD i false := fun i o ho hi j hj => by
 unfold waitsOn at hj
 obtain ⟨q, hq, he⟩ := Array.any_eq_true.1 hj
 simp only [Bool.and_eq_true, beq_iff_eq] at he
 have := h.closed i o ho hi _ (Array.getElem_mem hq) he.1
 rw [he.2] at this
 exact this
structure FInv (ops : Array Oper) (n : Nat) (φ : Nat → Value → World → Prop) (ψ : Nat → World → Prop) (a0 : Act) (listed : Array Bool) (a : Act) (w : World) : Prop where
 head : HeadInv .any ops n listed
 frame : FrameAt ops n a0 a
 facts : ∀ i, i < n → listed.getD i false = true → φ i (valAt ops a i) w
 pre : ∀ i, i < n → listed.getD i false = false → ψ i w
theorem facts_any {φ : Nat → Value → World → Prop} {ψ : Nat → World → Prop} {Rel : Nat → World → World → Prop} {a0 : Act} (hf : FactsOk ops n) (hsz : ∀ i d, i < n → dst? ops i = some d → d < a0.tmps.size)
   (stab : ∀ i j w w', i < n → j < n → j ≠ i → Rel j w w' → ((∃ L, Closed ops L ∧ L i = false ∧ L j = true) → ψ i w → ψ i w') ∧ ((∃ L, Closed ops L ∧ L i = true ∧ L j = false) → ∀ v, φ i v w → φ i v w'))
   (hop : ∀ i o, i < n → ops[i]? = some o → ∀ a w, ψ i w → FrameAt ops n a0 a → (∀ e ∈ o.after, Region.binds .any e = true → φ e.on (valAt ops a e.on) w) → o.wp P a w (fun a' w' => ∃ v, a' = a.put o.dst v ∧ (o.dst = none → v = undef) ∧ Rel i w w' ∧ φ i v w') Q)
   (l : List Oper) (hl : ops = l.toArray)
   (hend : ∀ (vals : Nat → Value) w, (∀ i, i < n → φ i (vals i) w) → wpList P ops Q (l.drop n) (putN ops a0 vals n) w) :
   ∀ (f : Nat) (listed : Array Bool) (a : Act) (w : World), FInv ops n φ ψ a0 listed a w → listed.count true + f = n → wpAny P .any ops Q (f + (ops.size - n)) listed a w
 | 0, listed, a, w, h, hc => by
   have hlen : (l.drop n).length = ops.size - n := by rw [hl]; simp
   have hall : ∀ i, i < n → listed.getD i false = true := by
     intro i hi
     cases hq : listed.getD i false with
     | true => rfl
     | false =>
       exfalso
       have hlt : i < listed.size := by rw [h.head.size]; have := hf.lt; omega
       have h1 := count_set (getD_in hlt hq)
       have h2 : (listed.setIfInBounds i true).count true ≤ n := by
         have h3 : ∀ t, n ≤ t → t < ops.size → (listed.setIfInBounds i true).getD t true = false := fun t ht ht' => by rw [getD_set_ne true (by omega)]; exact h.head.tail t ht ht'
         have hsz2 : (listed.setIfInBounds i true).size = ops.size := by simp [h.head.size]
         generalize listed.setIfInBounds i true = L at *
         have e : L.toList = L.toList.take n ++ L.toList.drop n := (List.take_append_drop n _).symm
         rw [← Array.count_toList, e, List.count_append]
         have z : (L.toList.drop n).count true = 0 := by
           rw [List.count_eq_zero]
           intro hm
           obtain ⟨q, hq1, hq2⟩ := List.getElem_of_mem hm
           rw [List.length_drop, Array.length_toList] at hq1
           rw [List.getElem_drop] at hq2
           have := h3 (n + q) (by omega) (by omega)
           have hlt2 : n + q < L.size := by omega
           simp [hlt2] at this
           simp at hq2
           rw [hq2] at this
           cases this
         have z2 := List.count_le_length (a := true) (l := L.toList.take n)
         rw [List.length_take] at z2
         omega
       omega
   have hlst : listed = firstN ops.size n := by
     apply Array.ext
     · rw [h.head.size]; simp [firstN]
     · intro i h1 h2
       simp only [firstN, Array.getElem_ofFn]
       by_cases hi : i < n
       · have := hall i hi
         simpa [h1, hi] using this
       · have := h.head.tail i (by omega) (by rw [← h.head.size]; exact h1)
         simpa [h1, hi] using this
   have hw : wpList P ops Q (l.drop n) a w := by
     rw [frame_putN hf hsz h.frame]
     exact hend _ w (fun i hi => h.facts i hi (hall i hi))
   have := wpAny_of_seq (md := .any) (Q' := Q) (l.drop n) n listed a w (fun j => by rw [hl]; simp [List.getElem?_drop]) (by rw [hlen, hlst]; exact hf.seq) hw
   rw [hlen] at this
   rw [Nat.zero_add]
   exact this
 | f + 1, listed, a, w, h, hc => by
   rw [show f + 1 + (ops.size - n) = (f + (ops.size - n)) + 1 by omega]
   obtain ⟨i, hin, hiu⟩ : ∃ i, i < n ∧ listed.getD i true = false := by
     refine Classical.byContradiction fun hno => ?_
     have hall : ∀ i, i < n → listed.getD i false = true := fun i hi => by
       cases hq : listed.getD i false with
       | true => rfl
       | false => exact absurd ⟨i, hi, getD_in (by rw [h.head.size]; have := hf.lt; omega) hq⟩ hno
     have : n ≤ listed.count true := by
       have e : listed.toList = listed.toList.take n ++ listed.toList.drop n := (List.take_append_drop n _).symm
       rw [← Array.count_toList, e, List.count_append]
       have z : (listed.toList.take n).count true = (listed.toList.take n).length := by
         rw [List.count_eq_length]
         intro b hb
         obtain ⟨q, hq1, hq2⟩ := List.getElem_of_mem hb
         rw [List.length_take, Array.length_toList] at hq1
         rw [List.getElem_take] at hq2
         have := hall q (by omega)
         have hlt2 : q < listed.size := by omega
         simp [hlt2] at this
         simp at hq2
         rw [← hq2, this]
       rw [z, List.length_take, Array.length_toList, h.head.size]
       have := hf.lt
       omega
     omega
   have hleast : ∃ i, i < n ∧ listed.getD i true = false ∧ ∀ j, j < i → listed.getD j false = true := by
     induction i using Nat.strongRecOn with
     | ind i ih =>
       by_cases hj : ∃ j, j < i ∧ listed.getD j false = false
       · obtain ⟨j, hj1, hj2⟩ := hj
         exact ih j hj1 (by omega) (getD_in (by rw [h.head.size]; have := hf.lt; omega) hj2)
       · refine ⟨i, hin, hiu, fun j hji => ?_⟩
         cases hq : listed.getD j false with
         | true => rfl
         | false => exact absurd ⟨j, hji, hq⟩ hj
   obtain ⟨i0, h01, h02, h03⟩ := hleast
   obtain ⟨o0, ho0, _, _, haf0, _⟩ := hf.ops i0 h01
   have hr0 : i0 ∈ Region.ready .any ops listed := mem_ready.2 ⟨h02, o0, ho0, fun e he hb => h03 e.on (haf0 e he hb)⟩
   refine ⟨fun hn => (by rw [hn] at hr0; cases hr0), fun j hj => ?_⟩
   have hjn : j < n := by
     rcases Nat.lt_or_ge n ops.size with hlt | hge
     · exact Nat.lt_of_not_le fun hh => tail_waits (hf.sink hlt) hf.chain hlt h.head _ i0 rfl h01 h02 j hh hj
     · obtain ⟨_, oj0, hoj0, _⟩ := mem_ready.1 hj
       have := (Array.getElem?_eq_some_iff.1 hoj0).1
       omega
   obtain ⟨hju, oj', hoj', hjall⟩ := mem_ready.1 hj
   obtain ⟨oj, hoj, hg, hdd, haf, hne0⟩ := hf.ops j hjn
   obtain rfl : oj' = oj := Option.some.inj (hoj'.symm.trans hoj)
   have hjf : listed.getD j false = false := by
     cases hq : listed.getD j false with
     | false => rfl
     | true =>
       exfalso
       have hlt : j < listed.size := by rw [h.head.size]; have := hf.lt; omega
       simp [hlt] at hq hju
       rw [hju] at hq; cases hq
   have hstep := hop j oj' hjn hoj a w (h.pre j hjn hjf) h.frame (fun e he hb => h.facts e.on (Nat.lt_trans (haf e he hb) hjn) (hjall e he hb))
   unfold wpOp
   rw [hoj]
   simp only [Region.wanted, hg, if_true]
   refine Or.inl (Oper.wp_mono ?_ hstep)
   rintro a' w' ⟨v, rfl, hvn, hb, hφ⟩
   have hdlt : ∀ d, oj'.dst = some d → d < a.tmps.size := fun d hd => by rw [h.frame.size]; exact hsz j d hjn (by rw [hdd]; exact hd)
   have hls : ∀ k, j ≠ k → (listed.setIfInBounds j true).getD k false = true → listed.getD k false = true := fun k hk hl => by rwa [getD_set_ne false hk] at hl
   have hvj : valAt ops (a.put oj'.dst v) j = v := by
     unfold valAt
     rw [hdd]
     cases hd : oj'.dst with
     | none => exact (hvn hd).symm
     | some d => show (a.put (some d) v).tmps.getD d undef = v; rw [put_get2 (by rw [← hd]; exact hdlt), if_pos rfl]
   have hvk : ∀ k, k < n → j ≠ k → valAt ops (a.put oj'.dst v) k = valAt ops a k := fun k hk hjk => by
     unfold valAt
     cases hdk : dst? ops k with
     | none => rfl
     | some d =>
       show (a.put oj'.dst v).tmps.getD d undef = a.tmps.getD d undef
       rw [put_get2 hdlt, if_neg]
       intro e
       rcases Nat.lt_or_gt_of_ne hjk with hlt | hgt
       · obtain ⟨ok, _, _, hdk2, _, hne⟩ := hf.ops k hk
         exact hne j hlt d (by rw [← hdk2]; exact hdk) (by rw [hdd]; exact e)
       · exact hne0 k hgt d e hdk
   refine facts_any hf hsz stab hop l hl hend f _ _ _ ⟨h.head.set hj hjn, ⟨by rw [put_size2]; exact h.frame.size, by rw [put_defers2]; exact h.frame.defers, fun s hs => ?_⟩, fun k hk hkl => ?_, fun k hk hkl => ?_⟩ (by rw [count_set hju]; omega)
   · rw [put_get2 hdlt, if_neg (fun e => hs j hjn (by rw [hdd]; exact e))]
     exact h.frame.same s hs
   · by_cases hjk : j = k
     · subst hjk
       rw [hvj]
       exact hφ
     · rw [hvk k hk hjk]
       exact (stab k j _ _ hk hjn hjk hb).2 ⟨_, closed_of h.head, hls k hjk hkl, hjf⟩ _ (h.facts k hk (hls k hjk hkl))
   · have hjk : j ≠ k := by
       rintro rfl
       have hlt : j < listed.size := by rw [h.head.size]; have := hf.lt; omega
       simp [hlt] at hkl
     exact (stab k j _ _ hk hjn hjk hb).1 ⟨_, closed_of (h.head.set hj hjn), hkl, by
       have hlt : j < listed.size := by rw [h.head.size]; have := hf.lt; omega
       simp [hlt]⟩ (h.pre k hk (by rwa [getD_set_ne false hjk] at hkl))
end
theorem wp_region_factsZ {P : Program} {Q : Exit → Act → World → Prop} {id : Nat} {a0 : Act} {w : World} {l : List Oper} (n : Nat) (φ : Nat → Value → World → Prop) (ψ : Nat → World → Prop) (Rel : Nat → World → World → Prop) (hm : P.follows .mixedOrders = true) (hB : factsB l.toArray n = true)
   (N : Nat) (hN : a0.tmps.size = N) (hD : ((List.range n).all fun i => match dst? l.toArray i with | some d => decide (d < N) | none => true) = true)
   (start : ∀ i, i < n → ψ i w.drew)
   (stab : ∀ i j w w', i < n → j < n → j ≠ i → Rel j w w' → ((∃ L, Closed l.toArray L ∧ L i = false ∧ L j = true) → ψ i w → ψ i w') ∧ ((∃ L, Closed l.toArray L ∧ L i = true ∧ L j = false) → ∀ v, φ i v w → φ i v w'))
   (hop : ∀ i o, i < n → l[i]? = some o → ∀ a w', ψ i w' → (∀ s, (∀ i, i < n → dst? l.toArray i ≠ some s) → a.tmps.getD s undef = a0.tmps.getD s undef) → (∀ j, waitsOn o j = true → φ j (valAt l.toArray a j) w') → a.defers = a0.defers → o.wp P a w' (fun a' w'' => ∃ v, a' = a.put o.dst v ∧ (o.dst = none → v = undef) ∧ Rel i w' w'' ∧ φ i v w'') Q)
   (hend : ∀ (vals : Nat → Value) w', (∀ i, i < n → φ i (vals i) w') → wpList P l.toArray Q (l.drop n) (putN l.toArray a0 vals n) w') : (Code.region id l.toArray true).wp P Q a0 w := by
 have hf := factsOk_of hB
 have hsz : ∀ i d, i < n → dst? l.toArray i = some d → d < a0.tmps.size := fun i d hi hd => by
   have := List.all_eq_true.1 hD i (by simpa using hi)
   rw [hd] at this
   rw [hN]; simpa using this
 refine wp_region_any hm ?_
 have inv0 : HeadInv .any l.toArray n (Array.replicate l.toArray.size false) :=
   ⟨by simp, fun j oj _ hl => (by rw [getD_replicate_false] at hl; cases hl), fun t _ ht => getD_in (by simpa using ht) (getD_replicate_false _ _)⟩
 have := facts_any (P := P) (Q := Q) (φ := φ) (ψ := ψ) (Rel := Rel) hf hsz stab (fun i o hi ho a w' hp hfr hdep => hop i o hi (by simpa using ho) a w' hp hfr.same (fun j hj => by
   unfold waitsOn at hj
   obtain ⟨q, hq, he⟩ := Array.any_eq_true.1 hj
   simp only [Bool.and_eq_true, beq_iff_eq] at he
   rw [← he.2]
   exact hdep _ (Array.getElem_mem hq) he.1) hfr.defers) l rfl hend n (Array.replicate l.toArray.size false) a0 w.drew ⟨inv0, ⟨rfl, rfl, fun _ _ => rfl⟩, fun i _ hl => (by rw [getD_replicate_false] at hl; cases hl), fun i hi _ => start i hi⟩ (by simp [Array.count_replicate])
 rw [show n + (l.toArray.size - n) = l.toArray.size by have := hf.lt; omega] at this
 exact this
theorem fact_valueZ {P : Program} {o : Oper} {a : Act} {w w' : World} {R : World → Prop} {φ : Value → World → Prop} {Q : Exit → Act → World → Prop} {v : Value} {d : Nat} (hd : o.dst = some d) (h : (execOp a.eval o).run P w = .ok (.value v) w') (hb : R w') (hk : φ v w') :
   o.wp P a w (fun a' w'' => ∃ v, a' = a.put o.dst v ∧ (o.dst = none → v = undef) ∧ R w'' ∧ φ v w'') Q := by
 unfold Oper.wp
 rw [h]
 exact ⟨v, rfl, fun h => (by rw [hd] at h; cases h), hb, hk⟩
theorem fact_storeZ {P : Program} {o : Oper} {a : Act} {w w' : World} {R : World → Prop} {φ : Value → World → Prop} {Q : Exit → Act → World → Prop} (hd : o.dst = none) (h : (execOp a.eval o).run P w = .ok .skip w') (hb : R w') (hk : φ undef w') :
   o.wp P a w (fun a' w'' => ∃ v, a' = a.put o.dst v ∧ (o.dst = none → v = undef) ∧ R w'' ∧ φ v w'') Q := by
 unfold Oper.wp
 rw [h]
 exact ⟨undef, by rw [hd], fun _ => rfl, hb, hk⟩
theorem fact_callZ {P : Program} {o : Oper} {a : Act} {w : World} {R : World → Prop} {φ : Value → World → Prop} {Q : Exit → Act → World → Prop} {f : FuncId} {fn : Func} {xs : Array Operand} {ats : Array TypeId} {args : Array Value} {d : Nat} (hd : o.dst = some d) (hop : o.op = .call { callee := .value (.func f), args := xs, argTypes := ats }) (hf : P.funcs[f]? = some fn) (hname : (fn.name == "runtime.NumGoroutine") = false) (hb : fn.body.isSome = true)
   (hargs : xs.map a.eval = args) (hc : Calls P f args w fun e w' => (∃ v, e = .returned v ∧ R w' ∧ φ v w') ∨ ∃ c, e = .panicked c ∧ Q (.panic c) a w') : o.wp P a w (fun a' w' => ∃ v, a' = a.put o.dst v ∧ (o.dst = none → v = undef) ∧ R w' ∧ φ v w') Q := by
 obtain ⟨c, hb⟩ := Option.isSome_iff_exists.1 hb
 have h1 : fn.name ≠ "runtime.NumGoroutine" := by simpa using hname
 have ef : a.eval (.func f) = .func (.func f) #[] #[] := rfl
 have he : (execOp a.eval o).run P w = .ok (.enter f args) w := by
   unfold execOp
   simp [hop, resolve, Deferred.ofValue, invoke, ef, hargs, callFunc, hf, h1, hb]
 unfold Oper.wp
 rw [he]
 simp only [Oper.upon]
 refine hc.mono ?_
 rintro e w' (⟨v, rfl, h2, h3⟩ | ⟨c, rfl, h2⟩)
 · exact ⟨v, rfl, fun h => (by rw [hd] at h; cases h), h2, h3⟩
 · exact h2
end FZ
end Go.Proofs.YtbkjcccbjnehbanGreatDoor

namespace Go.Proofs.YtbkjcccbjnehbanGreatDoor
open Go.RowKit
def EndP (g m : Nat) (L : List Sg) (lv nv : Value) (w : World) (d : Nat) (R : Option (Tm × Int × St)) (e : Ending) (w' : World) : Prop := match R with
 | some y => ∃ v, e = .returned (.tuple #[v, .int .i64 y.2.1]) ∧ TmRI g m L lv nv w v w' (y.1, y.2.2) d
 | none => e = .panicked unreadC ∧ ∃ nv', FX (XI g m nv) (XI g m nv') w w'
def prefO (tm : Int → St → Option (Tm × St)) (most : Int) (s : ByteArray) (r : List Sg) (names : List ByteArray) : Option (Tm × Int × St) := match prefixP s with
 | some op => if op.prio ≤ most then (match tm op.right ⟨r, names⟩ with
   | none => none
   | some y => some (structTm s [y.1], op.prio, y.2)) else none
 | none => if (infixP s).isSome then none else some (atomTm s, 0, ⟨r, names⟩)
def PKI (g m : Nat) (L : List Sg) (lv nv : Value) (w : World) (d : Nat) (st : St) (P : (Nat → Prop) → World → Prop) (w' : World) : Prop :=
 ∃ nv', P (XI g m nv') w' ∧ IRd g m L lv nv' w' d st ∧ FX (XI g m nv) (XI g m nv') w w' ∧ ¬ XI g m nv' w.heap.size
theorem PKI.below {g m : Nat} {L : List Sg} {lv nv : Value} {w w1 w2 : World} {d : Nat} {st : St} {P P' : (Nat → Prop) → World → Prop} (h : PKI g m L lv nv w d st P w1) (hb : Below w1.heap.size w1 w2) (hP : ∀ X, FX X X w1 w2 → ¬ X w.heap.size → P X w1 → P' X w2) : PKI g m L lv nv w d st P' w2 := by
 obtain ⟨nv', h1, h2, h3, h4⟩ := h
 exact ⟨nv', hP _ (FX.of_below hb) h4 h1, h2.keep hb, h3.trans (FX.of_below hb), h4⟩
structure Set0 (B : Nat) (w w' : World) : Prop where
 os : w'.os = w.os
 tape : w'.tape = w.tape
 output : w'.output = w.output
 size : w'.heap.size = w.heap.size
 oth : ∀ k, k ≠ B → w'.heap[k]? = w.heap[k]?
theorem Set0.of4 (B : Nat) (w : World) (d0 d1 d2 d3 : Value) : Set0 B w ((((w.setCell ⟨B, 0, none⟩ d0).setCell ⟨B, 1, none⟩ d1).setCell ⟨B, 2, none⟩ d2).setCell ⟨B, 3, none⟩ d3) :=
 ⟨rfl, rfl, rfl, by simp [World.setCell], fun k hk => blk4_other hk⟩
theorem PKI.set0 {g m : Nat} {L : List Sg} {lv nv : Value} {w w1 w2 : World} {d : Nat} {st : St} {P P' : (Nat → Prop) → World → Prop} (h : PKI g m L lv nv w d st P w1) (hg : g < w.heap.size) (hb : Set0 w.heap.size w1 w2) (hP : ∀ X, (∀ k, w.heap.size + 1 ≤ k → w2.heap[k]? = w1.heap[k]?) → P X w1 → P' X w2) : PKI g m L lv nv w d st P' w2 := by
 obtain ⟨nv', h1, h2, h3, h4⟩ := h
 refine ⟨nv', hP _ (fun k hk => hb.oth k (by omega)) h1, h2.turn fun k hk => hb.oth k (fun e => ?_), ⟨hb.os.trans h3.os, hb.tape.trans h3.tape, hb.output.trans h3.output, by rw [hb.size]; exact h3.size, fun k hk hx => (hb.oth k (by omega)).trans (h3.block k hk hx), h3.new⟩, h4⟩
 rcases hk with hk | hk
 · omega
 · rw [e] at hk; exact h4 hk
def RelM (g m : Nat) (nv : Value) (R0 ir is j : Nat) (w w' : World) : Prop := (j = ir → ∃ nv', FX (XI g m nv) (XI g m nv') w w') ∧ (j = is → Set0 R0 w w') ∧ (j ≠ ir → j ≠ is → Below w.heap.size w w')
theorem RelM.of_below {g m : Nat} {nv : Value} {R0 ir is j : Nat} {w w' : World} (h : Below w.heap.size w w') (h1 : j ≠ ir) (h2 : j ≠ is) : RelM g m nv R0 ir is j w w' := ⟨fun e => absurd e h1, fun e => absurd e h2, fun _ _ => h⟩
set_option maxHeartbeats 8000000 in
set_option maxRecDepth 20000 in
theorem i_prefixOrAtom (f g m : Nat) (L : List Sg) (lv nv : Value) (d : Nat) (most : Int) (x : Sg) (r : List Sg) (names : List ByteArray) (s : ByteArray) (w : World) (hL : L.length ≤ 3000) (hs : s.size ≤ 3000) (hf : d + f = 130) (hT : TermCI f g m L lv) (h : IRd g m L lv nv w d ⟨x :: r, names⟩) :
   Calls Tryz.prog 94 #[.pointer (some ⟨g, 0, none⟩), .string s, .int .i64 most] w fun e w' => EndP g m L lv nv w d (prefO (termO false f) most s r names) e w' := by
 obtain ⟨W, hW⟩ : ∃ W, W = w.alloc (.cells #[.int .i64 0, .string ⟨#[]⟩, .int .i64 0, .slice none 0 0] 24) := ⟨_, rfl⟩
 have bW : Below w.heap.size w W := by rw [hW]; exact (Below.refl _ _).alloc (Nat.le_refl _) _
 have sW : W.heap.size = w.heap.size + 1 := by rw [hW]; simp
 have kW : W.heap[w.heap.size]? = some (.cells #[.int .i64 0, .string ⟨#[]⟩, .int .i64 0, .slice none 0 0] 24 (0, 0)) := by rw [hW]; exact heap_alloc_new _ _
 have HH : Hid (IRd g m L lv nv w d ⟨x :: r, names⟩) := h
 have hlt := h.lt
 obtain ⟨p, c1, hp, f1, hI⟩ := (h.keep bW).step
 have hwr : IntKind.i64.wrap ((p : Int) + 1) = ((p + 1 : Nat) : Int) := by rw [IntKind.wrap_i64]; omega
 obtain ⟨V, hV⟩ : ∃ V, V = W.setCell ⟨g, 1, none⟩ (.int .i64 ((p + 1 : Nat) : Int)) := ⟨_, rfl⟩
 rw [← hV] at hI
 have hc : ((p + 1 : Nat) : Int) = (p : Int) + 1 := by omega
 rw [hc] at hwr hV
 clear hc
 have HFV : Hid (FX (XI g m nv) (XI g m nv) w V) := by rw [hV]; exact (FX.of_below bW).set (Or.inl (Or.inl rfl)) _
 have HKV : Hid (V.heap[w.heap.size]? = some (.cells #[.int .i64 0, .string ⟨#[]⟩, .int .i64 0, .slice none 0 0] 24 (0, 0))) := by
   show _ = _
   rw [hV, blk_other _ (by omega)]; exact kW
 have HSV : Hid (V.heap.size = w.heap.size + 1) := by show _ = _; rw [hV, ← sW]; simp [World.setCell]
 have HIV : Hid (IRd g m L lv nv V d ⟨r, names⟩) := hI
 have HL : Hid (L.length ≤ 3000) := hL
 have HTC : Hid (TermCI f g m L lv) := hT
 have HF : Hid (d + f = 130) := hf
 have HSZ : Hid (s.size ≤ 3000) := hs
 have HPO : Hid _ := i_prefix s V (by omega)
 have HIN : Hid (∀ w1, Calls Tryz.prog 95 #[.string s] w1 fun e w' => e = .returned (.tuple #[opV (infixP s), .bool (infixP s).isSome]) ∧ Below w1.heap.size w1 w') := fun w1 => i_infix s w1 (by omega)
 clear hI hT hlt h bW sW kW hf hL hs
 obtain ⟨N, hN⟩ : ∃ N, N = prefO (termO false f) most s r names := ⟨_, rfl⟩
 rw [← hN]
 unfold prefO at hN
 go_enter Tryz.func94, Tryz.ntmps94
 go_upto_region 1 with fail
 rw [← hW]
 clear hW
 go_upto_region 2 with fail
 rw [← hV]
 clear hV hwr c1 f1 hp
 obtain ⟨oa, ob, oc, od, ho, hov⟩ := opV_open (infixP s)
 rw [ho] at HIN
 clear ho hov
 cases hpf : prefixP s with
 | none =>
   rw [hpf] at HPO hN
   simp only [opV, Option.isSome_none] at HPO
   simp only at hN
   obtain ⟨ib, hib⟩ : ∃ ib, ib = (infixP s).isSome := ⟨_, rfl⟩
   rw [← hib] at HIN hN
   clear hpf hib
   cases ib with
   | true =>
     have HN : Hid (N = none) := hN
     clear hN
     go_wp2_with (first
       | (go_at_call 103; refine (Calls.mono HPO.out ?_); rintro e w1 ⟨rfl, hb⟩; have HB1 : Hid (Below V.heap.size V w1) := hb; clear hb)
       | (go_at_call 95; refine (Calls.mono (HIN.out _) ?_); rintro e w2 ⟨rfl, hb⟩; have HB2 : Hid (Below V.heap.size V w2) := (HB1.out.alloc HB1.out.size _).trans (hb.mono (by have := HB1.out.size; simp; omega)); clear hb))
     go_wp2
     rw [HN.out]
     exact ⟨rfl, rfl, nv, HFV.out.trans (FX.of_below (HB2.out.alloc HB2.out.size _))⟩
   | false =>
     have HN : Hid (N = some (atomTm s, 0, ⟨r, names⟩)) := hN
     have HAT : Hid (∀ w1, Calls Tryz.prog 89 #[.string s] w1 fun e w' => e = .returned (.agg #[.int .i64 2, .string s, .int .i64 0, .slice none 0 0]) ∧ Below w1.heap.size w1 w') := fun w1 => i_atomOf s w1 (by have := HSZ.out; omega)
     clear hN
     have HA : Hid (∀ w4, Below V.heap.size V w4 → ¬ XI g m nv w.heap.size ∧ w4.heap[w.heap.size]? = some (.cells #[.int .i64 0, .string ⟨#[]⟩, .int .i64 0, .slice none 0 0] 24 (0, 0))) := fun w4 hb => by
       have := fin_keep HH.out (by have := HSV.out; omega) (FX.of_below (X := XI g m nv) hb)
       exact ⟨this.1, this.2.trans HKV.out⟩
     go_wp2_with (first
       | (go_at_call 103; refine (Calls.mono HPO.out ?_); rintro e w1 ⟨rfl, hb⟩; have HB1 : Hid (Below V.heap.size V w1) := hb; clear hb)
       | (go_at_call 95; refine (Calls.mono (HIN.out _) ?_); rintro e w2 ⟨rfl, hb⟩; have HB2 : Hid (Below V.heap.size V w2) := (HB1.out.alloc HB1.out.size _).trans (hb.mono (by have := HB1.out.size; simp; omega)); clear hb)
       | (go_at_call 89; refine (Calls.mono (HAT.out _) ?_); rintro e w3 ⟨rfl, hb⟩; have HB3 : Hid (Below V.heap.size V w3) := (HB2.out.alloc HB2.out.size _).trans (hb.mono (by have := HB2.out.size; simp; omega)); obtain ⟨hn, hk⟩ := HA.out w3 HB3.out; obtain ⟨q0, q1, q2, q3, fz0, fz1, fz2, fz3⟩ := blk4 hk; have HKE : Hid _ := hk; have HNE : Hid (¬ XI g m nv w.heap.size) := hn; clear hb hn hk))
     refine bodyPost_ret_by (results_ct2 rfl _ _ w.heap.size 24 _ (0, 0) _ rfl (blk4_set HKE.out) Tryz.underlying24 rfl (by kernel_rfl)) rfl ?_
     rw [HN.out]
     exact ⟨_, rfl, TmRI.fin HH.out (HFV.out.trans (FX.of_below HB3.out)) HNE.out (TOk.leaf (by omega) (by omega) (by have := HSZ.out; unfold maxLen; omega)) (HIV.out.keep HB3.out) rfl⟩
 | some op =>
   obtain ⟨on, opr, ole, ori⟩ := op
   rw [hpf] at HPO hN
   simp only [opV, Option.isSome_some] at HPO
   simp only at hN
   by_cases hpm : opr ≤ most
   · rw [if_pos hpm] at hN
     have hdm : decide (opr ≤ most) = true := decide_eq_true hpm
     go_upto_region 4 with (go_at_call 103; refine (Calls.mono HPO.out ?_); rintro e w1 ⟨rfl, hb⟩; have HB1 : Hid (Below V.heap.size V w1) := hb; clear hb)
     obtain ⟨w2, hw2⟩ : ∃ w2, w2 = w1.alloc (.cells #[.string on, .int .i64 opr, .int .i64 ole, .int .i64 ori] 72) := ⟨_, rfl⟩
     rw [← hw2]
     have bw2 : Below w1.heap.size w1 w2 := by rw [hw2]; exact (Below.refl _ _).alloc (Nat.le_refl _) _
     have hO8 : w2.heap[w1.heap.size]? = some (.cells #[.string on, .int .i64 opr, .int .i64 ole, .int .i64 ori] 72 (0, 0)) := by rw [hw2]; exact heap_alloc_new _ _
     have hs8 : w.heap.size < w1.heap.size := by have := HSV.out; have := HB1.out.size; omega
     obtain ⟨O8, hO⟩ : ∃ O8, O8 = w1.heap.size := ⟨_, rfl⟩
     rw [← hO] at hO8 hs8 ⊢
     have HO8 : Hid (w2.heap[O8]? = some (.cells #[.string on, .int .i64 opr, .int .i64 ole, .int .i64 ori] 72 (0, 0)) ∧ w.heap.size < O8 ∧ O8 < w2.heap.size) := ⟨hO8, hs8, by rw [hw2, hO]; simp⟩
     have HB2 : Hid (Below V.heap.size V w2) := HB1.out.trans (bw2.mono HB1.out.size)
     have HI2 : Hid (IRd g m L lv nv w2 d ⟨r, names⟩) := HIV.out.keep HB2.out
     have HX2 : Hid (FX (XI g m nv) (XI g m nv) w w2) := HFV.out.trans (FX.of_below HB2.out)
     have hk0 := fin_keep HH.out (by have := HSV.out; omega) (FX.of_below (X := XI g m nv) HB2.out)
     have HR0 : Hid (¬ XI g m nv w.heap.size ∧ w2.heap[w.heap.size]? = some (.cells #[.int .i64 0, .string ⟨#[]⟩, .int .i64 0, .slice none 0 0] 24 (0, 0))) := ⟨hk0.1, hk0.2.trans HKV.out⟩
     have HNO : Hid (¬ XI g m nv O8) := fun hh => by have := HH.out.lt.2.2 _ hh; have := HO8.out.2.1; omega
     clear hw2 bw2 hO8 hs8 hO hk0 HPO HIN hdm hpm hpf
     obtain ⟨R, hR⟩ : ∃ R, R = termO false f ori ⟨r, names⟩ := ⟨_, rfl⟩
     rw [← hR] at hN
     have HTM : Hid (∀ w3, IRd g m L lv nv w3 d ⟨r, names⟩ → Calls Tryz.prog 56 #[.pointer (some ⟨g, 0, none⟩), .int .i64 ori] w3 fun e w' => EndI g m L lv nv w3 d R e w') := fun w3 h3 => by have := HTC.out d ori ⟨r, names⟩ nv w3 HF.out h3; rw [← hR] at this; exact this
     have HSO : Hid (∀ b w3, Calls Tryz.prog 75 #[.string s, .slice (some ⟨b, 0, none⟩) 1 1] w3 fun e w' => e = .returned (.agg #[.int .i64 4, .string s, .int .i64 0, .slice (some ⟨b, 0, none⟩) 1 1]) ∧ Below w3.heap.size w3 w') := fun b w3 => i_structOf s _ 1 1 w3 (by have := HSZ.out; omega)
     have HN : Hid (N = match (generalizing := false) R with | none => none | some y => some (structTm s [y.1], opr, y.2)) := hN
     clear hR hN
     refine FZ.wp_region_factsZ 11 (fun i v w' => match i with
       | 0 => v = .string s
       | 1 => v = .pointer (some ⟨g, 0, none⟩)
       | 2 => v = .pointer (some ⟨O8, 3, none⟩)
       | 3 => v = .int .i64 ori
       | 4 => ∃ y, R = some y ∧ PKI g m L lv nv w d y.2 (fun X w1 => ∃ F k1 s1 n1 ao1 ln1 cp1, v = .agg #[.int .i64 k1, .string s1, .int .i64 n1, .slice ao1 ln1 cp1] ∧ TOk 24 X (w.heap.size + 1) w1 y.1 v F) w'
       | 5 => ∃ y, R = some y ∧ PKI g m L lv nv w d y.2 (fun X w1 => ∃ F b, v = .slice (some ⟨b, 0, none⟩) 1 1 ∧ ROk 24 X (w.heap.size + 1) w1 [y.1] v F) w'
       | 6 => ∃ y, R = some y ∧ PKI g m L lv nv w d y.2 (fun X w1 => ∃ F b, v = .agg #[.int .i64 4, .string s, .int .i64 0, .slice (some ⟨b, 0, none⟩) 1 1] ∧ TOk 24 X (w.heap.size + 1) w1 (structTm s [y.1]) v F) w'
       | 7 => v = .pointer (some ⟨O8, 1, none⟩)
       | 8 => v = .int .i64 opr
       | 9 => ∃ y, R = some y ∧ PKI g m L lv nv w d y.2 (fun X w1 => ∃ F b, TOk 24 X (w.heap.size + 1) w1 (structTm s [y.1]) (.agg #[.int .i64 4, .string s, .int .i64 0, .slice (some ⟨b, 0, none⟩) 1 1]) F ∧ w1.heap[w.heap.size]? = some (.cells #[.int .i64 4, .string s, .int .i64 0, .slice (some ⟨b, 0, none⟩) 1 1] 24 (0, 0))) w'
       | _ => v = .int .i64 opr)
       (fun i w' => w2.heap.size ≤ w'.heap.size ∧ w'.heap[O8]? = some (.cells #[.string on, .int .i64 opr, .int .i64 ole, .int .i64 ori] 72 (0, 0)) ∧ (i = 9 → w'.heap[w.heap.size]? = some (.cells #[.int .i64 0, .string ⟨#[]⟩, .int .i64 0, .slice none 0 0] 24 (0, 0))) ∧ (i = 4 → IRd g m L lv nv w' d ⟨r, names⟩ ∧ FX (XI g m nv) (XI g m nv) w w'))
       (RelM g m nv w.heap.size 4 9) (by kernel_rfl) (by kernel_rfl) 53 rfl (by kernel_rfl) ?_ ?_ ?_ ?_
     · intro i _
       have hd := (Below.refl w2.heap.size w2).drew
       exact ⟨hd.size, (hd.block _ HO8.out.2.2).trans HO8.out.1, fun _ => (hd.block _ (by have := HO8.out.2; omega)).trans HR0.out.2, fun _ => ⟨HI2.out.keep hd, HX2.out.trans (FX.of_below hd)⟩⟩
     · intro i j u u' hi hj hne hrel
       have hz := HO8.out.2
       have hgw := HH.out.lt.1
       refine ⟨fun ⟨Lf, hcl, hLi, hLj⟩ => fun ⟨p1, p2, p3, p4⟩ => ?_, fun ⟨Lf, hcl, hLi, hLj⟩ v => ?_⟩
       · have hlt8 : O8 < u.heap.size := (Array.getElem?_eq_some_iff.1 p2).1
         by_cases e4 : j = 4
         · obtain ⟨nv', hx⟩ := hrel.1 e4
           refine ⟨Nat.le_trans p1 hx.size, (hx.block _ hlt8 HNO.out).trans p2, fun e => (hx.block _ (by omega) HR0.out.1).trans (p3 e), fun e => absurd (e4.trans e.symm) hne⟩
         · by_cases e9 : j = 9
           · subst e9
             have hs0 := hrel.2.1 rfl
             refine ⟨by rw [hs0.size]; exact p1, (hs0.oth _ (by omega)).trans p2, fun e => absurd e.symm hne, fun e => ?_⟩
             subst e
             have := hcl 9 _ rfl hLj 4 (by kernel_rfl)
             rw [hLi] at this; cases this
           · have hb := hrel.2.2 e4 e9
             exact ⟨Nat.le_trans p1 hb.size, (hb.block _ hlt8).trans p2, fun e => (hb.block _ (by omega)).trans (p3 e), fun e => ⟨(p4 e).1.keep hb, (p4 e).2.trans (FX.of_below hb)⟩⟩
       · by_cases e4 : j = 4
         · subst e4
           have c5 : Lf 5 = true → False := fun h5 => by have := hcl 5 _ rfl h5 4 (by kernel_rfl); rw [hLj] at this; cases this
           match i, hi with
           | 0, _ => exact fun h => h
           | 1, _ => exact fun h => h
           | 2, _ => exact fun h => h
           | 3, _ => exact fun h => h
           | 4, _ => exact absurd rfl hne
           | 5, _ => exact absurd hLi c5
           | 6, _ => exact absurd (hcl 6 _ rfl hLi 5 (by kernel_rfl)) c5
           | 7, _ => exact fun h => h
           | 8, _ => exact fun h => h
           | 9, _ => exact absurd (hcl 9 _ rfl hLi 5 (by kernel_rfl)) c5
           | 10, _ => exact fun h => h
         · by_cases e9 : j = 9
           · have hs0 := hrel.2.1 e9
             match i, hi with
             | 0, _ => exact fun h => h
             | 1, _ => exact fun h => h
             | 2, _ => exact fun h => h
             | 3, _ => exact fun h => h
             | 4, _ => exact fun ⟨y, h1, h2⟩ => ⟨y, h1, h2.set0 hgw hs0 fun X ht ⟨F, k1, s1, n1, ao1, ln1, cp1, h3, h4⟩ => ⟨F, k1, s1, n1, ao1, ln1, cp1, h3, h4.turn fun k hk _ => ht k hk⟩⟩
             | 5, _ => exact fun ⟨y, h1, h2⟩ => ⟨y, h1, h2.set0 hgw hs0 fun X ht ⟨F, b, h3, h4⟩ => ⟨F, b, h3, h4.turn fun k hk _ => ht k hk⟩⟩
             | 6, _ => exact fun ⟨y, h1, h2⟩ => ⟨y, h1, h2.set0 hgw hs0 fun X ht ⟨F, b, h3, h4⟩ => ⟨F, b, h3, h4.turn fun k hk _ => ht k hk⟩⟩
             | 7, _ => exact fun h => h
             | 8, _ => exact fun h => h
             | 9, _ => exact absurd e9 hne
             | 10, _ => exact fun h => h
           · have hb := hrel.2.2 e4 e9
             match i, hi with
             | 0, _ => exact fun h => h
             | 1, _ => exact fun h => h
             | 2, _ => exact fun h => h
             | 3, _ => exact fun h => h
             | 4, _ => exact fun ⟨y, h1, h2⟩ => ⟨y, h1, h2.below hb fun X hx _ ⟨F, k1, s1, n1, ao1, ln1, cp1, h3, h4⟩ => ⟨F, k1, s1, n1, ao1, ln1, cp1, h3, h4.step hx⟩⟩
             | 5, _ => exact fun ⟨y, h1, h2⟩ => ⟨y, h1, h2.below hb fun X hx _ ⟨F, b, h3, h4⟩ => ⟨F, b, h3, h4.step hx⟩⟩
             | 6, _ => exact fun ⟨y, h1, h2⟩ => ⟨y, h1, h2.below hb fun X hx _ ⟨F, b, h3, h4⟩ => ⟨F, b, h3, h4.step hx⟩⟩
             | 7, _ => exact fun h => h
             | 8, _ => exact fun h => h
             | 9, _ => exact fun ⟨y, h1, h2⟩ => ⟨y, h1, h2.below hb fun X hx hn ⟨F, b, h3, h4⟩ => ⟨F, b, h3.step hx, (hx.block _ (Array.getElem?_eq_some_iff.1 h4).1 hn).trans h4⟩⟩
             | 10, _ => exact fun h => h
     · intro i o hi ho a u ⟨p1, p2, p3, p4⟩ hfr hdep hdf
       have u0 : a.tmps.getD 0 undef = .pointer (some ⟨g, 0, none⟩) := hfr 0 (by decide)
       have u1 : a.tmps.getD 1 undef = .string s := hfr 1 (by decide)
       have u6 : a.tmps.getD 6 undef = .pointer (some ⟨w.heap.size, 0, none⟩) := hfr 6 (by decide)
       have u8 : a.tmps.getD 8 undef = .pointer (some ⟨O8, 0, none⟩) := hfr 8 (by decide)
       obtain ⟨x0, x1, x2, x3, _⟩ := blk4 p2
       have hz := HO8.out.2
       have hgw := HH.out.lt.1
       match i, hi with
       | 0, _ =>
         obtain rfl : _ = o := by simpa using ho
         refine FZ.fact_valueZ (w' := u) (v := .string s) rfl ?_ (RelM.of_below (Below.refl _ _) (by decide) (by decide)) rfl
         simp only [execOp, Act.eval, u1]
         go_simp
       | 1, _ =>
         obtain rfl : _ = o := by simpa using ho
         refine FZ.fact_valueZ (w' := u) (v := .pointer (some ⟨g, 0, none⟩)) rfl ?_ (RelM.of_below (Below.refl _ _) (by decide) (by decide)) rfl
         simp only [execOp, Act.eval, u0]
         go_simp
       | 2, _ =>
         obtain rfl : _ = o := by simpa using ho
         refine FZ.fact_valueZ (w' := u) (v := .pointer (some ⟨O8, 3, none⟩)) rfl ?_ (RelM.of_below (Below.refl _ _) (by decide) (by decide)) rfl
         simp only [execOp, Act.eval, u8]
         go_simp
       | 3, _ =>
         obtain rfl : _ = o := by simpa using ho
         have h0 : a.tmps.getD 33 undef = .pointer (some ⟨O8, 3, none⟩) := hdep 2 (by kernel_rfl)
         refine FZ.fact_valueZ (w' := u) (v := .int .i64 ori) rfl ?_ (RelM.of_below (Below.refl _ _) (by decide) (by decide)) rfl
         simp only [execOp, Act.eval, h0]
         go_simp
       | 4, _ =>
         obtain rfl : _ = o := by simpa using ho
         have h0 : a.tmps.getD 32 undef = .pointer (some ⟨g, 0, none⟩) := hdep 1 (by kernel_rfl)
         have h1 : a.tmps.getD 34 undef = .int .i64 ori := hdep 3 (by kernel_rfl)
         obtain ⟨q1, q2⟩ := p4 rfl
         refine FZ.fact_callZ rfl rfl Tryz.func56 (by kernel_rfl) (by kernel_rfl) (args := #[.pointer (some ⟨g, 0, none⟩), .int .i64 ori]) (by simp [Act.eval, h0, h1]) ?_
         refine Calls.mono (HTM.out u q1) ?_
         intro e u' he
         cases hR : R with
         | none =>
           rw [hR] at he
           obtain ⟨rfl, nv', hx⟩ := he
           refine Or.inr ⟨_, rfl, ?_⟩
           have hN := HN.out
           rw [hR] at hN
           refine ⟨hdf, ?_⟩
           rw [hN]
           exact ⟨rfl, nv', q2.trans hx⟩
         | some y =>
           rw [hR] at he
           obtain ⟨v, rfl, F, nv', ht, hi', hx⟩ := he
           refine Or.inl ⟨v, rfl, ⟨fun _ => ⟨nv', hx⟩, fun e => absurd e (by decide), fun e => absurd rfl e⟩, y, rfl, nv', ?_, hi', q2.trans hx, fun hh => ?_⟩
           · obtain ⟨k1, s1, n1, ao1, ln1, cp1, hv⟩ := ht.form
             exact ⟨F, k1, s1, n1, ao1, ln1, cp1, hv, ht.lo_le (by omega)⟩
           · exact (hx.new _ hh).elim HR0.out.1 (fun h9 => by omega)
       | 5, _ =>
         obtain rfl : _ = o := by simpa using ho
         obtain ⟨y, hy, nv', ⟨F, k1, s1, n1, ao1, ln1, cp1, hv, ht⟩, q2, q3, q4⟩ := hdep 4 (by kernel_rfl)
         have hv' : a.tmps.getD 35 undef = .agg #[.int .i64 k1, .string s1, .int .i64 n1, .slice ao1 ln1 cp1] := hv
         rw [hv] at ht
         have bA : Below u.heap.size u (u.alloc (.cells #[.int .i64 k1, .string s1, .int .i64 n1, .slice ao1 ln1 cp1] 24)) := (Below.refl _ _).alloc (Nat.le_refl _) _
         refine FZ.fact_valueZ (w' := u.alloc (.cells #[.int .i64 k1, .string s1, .int .i64 n1, .slice ao1 ln1 cp1] 24)) (v := .slice (some ⟨u.heap.size, 0, none⟩) 1 1) rfl ?_ (RelM.of_below bA (by decide) (by decide)) ⟨y, hy, nv', ⟨_, u.heap.size, rfl, ROk.one ht (by omega) (XI_new q2)⟩, q2.keep bA, q3.trans (FX.of_below bA), q4⟩
         have e9 : (#[((0 : Nat), Operand.tmp 35)].map fun x => (x.1, a.eval x.2)) = #[(0, .agg #[.int .i64 k1, .string s1, .int .i64 n1, .slice ao1 ln1 cp1])] := by simp [Act.eval]; simpa using hv'
         clear hdep hfr ho
         simp only [execOp, e9]
         go_simp
       | 6, _ =>
         obtain rfl : _ = o := by simpa using ho
         have h0 : a.tmps.getD 31 undef = .string s := hdep 0 (by kernel_rfl)
         obtain ⟨y, hy, hpk⟩ := hdep 5 (by kernel_rfl)
         obtain ⟨nv', ⟨F, b, hv, ht⟩, q2, q3, q4⟩ := hpk
         have hv' : a.tmps.getD 36 undef = .slice (some ⟨b, 0, none⟩) 1 1 := hv
         rw [hv] at ht
         refine FZ.fact_callZ rfl rfl Tryz.func75 (by kernel_rfl) (by kernel_rfl) (args := #[.string s, .slice (some ⟨b, 0, none⟩) 1 1]) (by simp [Act.eval, h0, hv']) ?_
         refine Calls.mono (HSO.out b u) ?_
         rintro e u' ⟨rfl, hb⟩
         exact Or.inl ⟨_, rfl, RelM.of_below hb (by decide) (by decide), y, hy, nv', ⟨F, b, rfl, (ht.step (FX.of_below hb)).tm (by have := HSZ.out; unfold maxLen; omega)⟩, q2.keep hb, q3.trans (FX.of_below hb), q4⟩
       | 7, _ =>
         obtain rfl : _ = o := by simpa using ho
         refine FZ.fact_valueZ (w' := u) (v := .pointer (some ⟨O8, 1, none⟩)) rfl ?_ (RelM.of_below (Below.refl _ _) (by decide) (by decide)) rfl
         simp only [execOp, Act.eval, u8]
         go_simp
       | 8, _ =>
         obtain rfl : _ = o := by simpa using ho
         have h0 : a.tmps.getD 38 undef = .pointer (some ⟨O8, 1, none⟩) := hdep 7 (by kernel_rfl)
         refine FZ.fact_valueZ (w' := u) (v := .int .i64 opr) rfl ?_ (RelM.of_below (Below.refl _ _) (by decide) (by decide)) rfl
         simp only [execOp, Act.eval, h0]
         go_simp
       | 9, _ =>
         obtain rfl : _ = o := by simpa using ho
         obtain ⟨y, hy, hpk⟩ := hdep 6 (by kernel_rfl)
         have hb0 : ∃ b, a.tmps.getD 37 undef = .agg #[.int .i64 4, .string s, .int .i64 0, .slice (some ⟨b, 0, none⟩) 1 1] := by obtain ⟨_, ⟨_, b, hv, _⟩, _⟩ := hpk; exact ⟨b, hv⟩
         obtain ⟨b, hv'⟩ := hb0
         have kb := p3 rfl
         obtain ⟨m0, m1, m2, m3, f0, f1, f2, f3⟩ := blk4 kb
         have hS := Set0.of4 w.heap.size u (.int .i64 4) (.string s) (.int .i64 0) (.slice (some ⟨b, 0, none⟩) 1 1)
         refine FZ.fact_storeZ (w' := (((u.setCell ⟨w.heap.size, 0, none⟩ (.int .i64 4)).setCell ⟨w.heap.size, 1, none⟩ (.string s)).setCell ⟨w.heap.size, 2, none⟩ (.int .i64 0)).setCell ⟨w.heap.size, 3, none⟩ (.slice (some ⟨b, 0, none⟩) 1 1)) rfl ?_ ⟨fun e => absurd e (by decide), fun _ => hS, fun _ e => absurd rfl e⟩ ⟨y, hy, hpk.set0 hgw hS fun X ht ⟨F, b', h3, h4⟩ => ⟨F, b, ?_, blk4_set kb⟩⟩
         · simp only [execOp, Act.eval, hv', u6]
           go_simp
         · rw [← hv']
           exact h4.turn fun k hk _ => ht k hk
       | 10, _ =>
         obtain rfl : _ = o := by simpa using ho
         have h0 : a.tmps.getD 39 undef = .int .i64 opr := hdep 8 (by kernel_rfl)
         refine FZ.fact_valueZ (w' := u) (v := .int .i64 opr) rfl ?_ (RelM.of_below (Below.refl _ _) (by decide) (by decide)) rfl
         simp only [execOp, Act.eval, h0]
         go_simp
     · intro vals w5 hf
       have v10 : vals 10 = .int .i64 opr := hf 10 (by omega)
       obtain ⟨y, hy, nv', ⟨F, b, ht, hk⟩, q2, q3, q4⟩ := hf 9 (by omega)
       have HT5 : Hid (TOk 24 (XI g m nv') (w.heap.size + 1) w5 (structTm s [y.1]) (.agg #[.int .i64 4, .string s, .int .i64 0, .slice (some ⟨b, 0, none⟩) 1 1]) F) := ht
       have HK5 : Hid (w5.heap[w.heap.size]? = some (.cells #[.int .i64 4, .string s, .int .i64 0, .slice (some ⟨b, 0, none⟩) 1 1] 24 (0, 0))) := hk
       have HI5 : Hid (IRd g m L lv nv' w5 d y.2) := q2
       have HX5 : Hid (FX (XI g m nv) (XI g m nv') w w5) := q3
       have HN5 : Hid (N = some (structTm s [y.1], opr, y.2)) := by have := HN.out; rw [hy] at this; exact this
       simp only [FZ.putN, List.getElem?_toArray, List.getElem?_cons_zero, List.getElem?_cons_succ, Option.bind_some, List.drop_succ_cons, List.drop_zero, v10]
       clear v10 ht hk q2 q3 q4 hf hy
       generalize vals 0 = m0
       generalize vals 1 = m1
       generalize vals 2 = m2
       generalize vals 3 = m3
       generalize vals 4 = m4
       generalize vals 5 = m5
       generalize vals 6 = m6
       generalize vals 7 = m7
       generalize vals 8 = m8
       generalize vals 9 = m9
       simp only [Act.put, List.setIfInBounds_toArray, List.set_cons_succ, List.set_cons_zero]
       go_wp2
       refine bodyPost_ret_by (results_ct2 rfl _ _ w.heap.size 24 _ (0, 0) _ rfl HK5.out Tryz.underlying24 rfl (by kernel_rfl)) rfl ?_
       rw [HN5.out]
       exact ⟨_, rfl, F, nv', HT5.out.lo_le (by omega), HI5.out, HX5.out⟩
   · rw [if_neg hpm] at hN
     have hdm : decide (opr ≤ most) = false := decide_eq_false hpm
     have HN : Hid (N = none) := hN
     obtain ⟨ib, hib⟩ : ∃ ib, ib = (infixP s).isSome := ⟨_, rfl⟩
     rw [← hib] at HIN
     clear hN hib hpf hpm
     cases ib
     all_goals
       go_wp2_with (first
         | (go_at_call 103; refine (Calls.mono HPO.out ?_); rintro e w1 ⟨rfl, hb⟩; have HB1 : Hid (Below V.heap.size V w1) := hb; clear hb)
         | (go_at_call 95; refine (Calls.mono (HIN.out _) ?_); rintro e w2 ⟨rfl, hb⟩; have HB2 : Hid (Below V.heap.size V w2) := (HB1.out.alloc HB1.out.size _).trans (hb.mono (by have := HB1.out.size; simp; omega)); clear hb))
       go_wp2
       rw [HN.out]
       exact ⟨rfl, rfl, nv, HFV.out.trans (FX.of_below (HB2.out.alloc HB2.out.size _))⟩
end Go.Proofs.YtbkjcccbjnehbanGreatDoor

namespace Go.Proofs.YtbkjcccbjnehbanGreatDoor
open Go.RowKit
theorem Hid.trans2 {w1 w2 w3 : World} (h : Hid (Below w1.heap.size w1 w2)) (hb : Below w2.heap.size w2 w3) : Hid (Below w1.heap.size w1 w3) := h.out.trans (hb.mono h.out.size)
theorem IRd.skip {g m n : Nat} {L : List Sg} {lv nv : Value} {w : World} {d : Nat} {pre r : List Sg} {names : List ByteArray} (hn : pre.length = n) (h : IRd g m L lv nv w d ⟨pre ++ r, names⟩) :
   ∃ p : Nat, w.cell? ⟨g, 1, none⟩ = some (.int .i64 (p : Int)) ∧ p + n ≤ L.length ∧ w.frozen? ⟨g, 1, none⟩ = false ∧ IRd g m L lv nv (w.setCell ⟨g, 1, none⟩ (.int .i64 ((p + n : Nat) : Int))) d ⟨r, names⟩ := by
 obtain ⟨p, ms, h1, h2, h3, h4, h5, h6, h7, h8, h9, h10⟩ := h.ex
 obtain ⟨c0, c1, c2, c3, c4, cf⟩ := b5f h1
 have hl := congrArg List.length h9
 rw [List.length_drop] at hl
 simp only [List.length_append] at hl
 refine ⟨p, c1, by omega, cf 1, ?_⟩
 have hs : (w.setCell ⟨g, 1, none⟩ (.int .i64 ((p + n : Nat) : Int))).heap[g]? = some (.cells #[lv, .int .i64 ((p + n : Nat) : Int), .int .i64 (d : Int), nv, .map (some m)] 63 (0, 0)) := by
   have := blk_set (i := 1) h1 (.int .i64 ((p + n : Nat) : Int))
   simpa using this
 have ho : ∀ k, k ≠ g → (w.setCell ⟨g, 1, none⟩ (.int .i64 ((p + n : Nat) : Int))).heap[k]? = w.heap[k]? := fun k hk => blk_other _ hk
 refine ⟨p + n, ms, hs, h2.turn fun b e => ho b (by have := (h3 b e).1; omega), h3, h4.turn fun b e => ho b (by have := (h4.lt b e).1; omega), h5.turn (ho m h7), h6, h7, by omega, ?_, by show names.length ≤ p + n; have : names.length ≤ p := h10; omega⟩
 show L.drop (p + n) = r
 have : L.drop (p + n) = (L.drop p).drop n := by rw [List.drop_drop]
 rw [this, h9, ← hn]
 simp
end Go.Proofs.YtbkjcccbjnehbanGreatDoor

namespace Go.Proofs.YtbkjcccbjnehbanGreatDoor
open Go.RowKit
set_option maxHeartbeats 8000000 in
set_option maxRecDepth 20000 in
theorem i_prim_A (f g m : Nat) (L : List Sg) (lv nv : Value) (d : Nat) (most : Int) (xt : ByteArray) (xn : Int) (xa : Nat) (uk : Int) (ut : ByteArray) (un : Int) (ua : Nat) (ub : Bool) (vk : Int) (vt : ByteArray) (vn : Int) (va : Nat) (vb : Bool) (r : List Sg) (names : List ByteArray) (w : World) (hL : L.length ≤ 3000) (hf : d + f = 130) (hT : TermCI f g m L lv) (h : IRd g m L lv nv w d ⟨⟨1, xt, xn, xa, true⟩ :: r, names⟩) (hu : aheadP ⟨⟨1, xt, xn, xa, true⟩ :: r, names⟩ 1 = ⟨uk, ut, un, ua, ub⟩) (hv : aheadP ⟨⟨1, xt, xn, xa, true⟩ :: r, names⟩ 2 = ⟨vk, vt, vn, va, vb⟩) (ht : xt.size ≤ 3000) :
   Calls Tryz.prog 73 #[.pointer (some ⟨g, 0, none⟩), .int .i64 most] w fun e w' => EndP g m L lv nv w d ((namedO (termO false f) xt r names).map fun y => (y.1, 0, y.2)) e w' := by
 obtain ⟨W, hW⟩ : ∃ W, W = w.alloc (.cells #[.int .i64 0, .string ⟨#[]⟩, .int .i64 0, .slice none 0 0] 24) := ⟨_, rfl⟩
 have bW : Below w.heap.size w W := by rw [hW]; exact (Below.refl _ _).alloc (Nat.le_refl _) _
 have sW : W.heap.size = w.heap.size + 1 := by rw [hW]; simp
 have kW : W.heap[w.heap.size]? = some (.cells #[.int .i64 0, .string ⟨#[]⟩, .int .i64 0, .slice none 0 0] 24 (0, 0)) := by rw [hW]; exact heap_alloc_new _ _
 have HH : Hid (IRd g m L lv nv w d ⟨⟨1, xt, xn, xa, true⟩ :: r, names⟩) := h
 have HA0 : Hid _ := i_ahead g m L lv nv d ⟨⟨1, xt, xn, xa, true⟩ :: r, names⟩ 0 W (by omega) hL (h.keep bW)
 have HA1 : Hid (∀ w1, Below W.heap.size W w1 → _) := fun w1 hb => i_ahead g m L lv nv d ⟨⟨1, xt, xn, xa, true⟩ :: r, names⟩ 1 w1 (by omega) hL ((h.keep bW).keep hb)
 have HA2 : Hid (∀ w1, Below W.heap.size W w1 → _) := fun w1 hb => i_ahead g m L lv nv d ⟨⟨1, xt, xn, xa, true⟩ :: r, names⟩ 2 w1 (by omega) hL ((h.keep bW).keep hb)
 have HX : Hid (sgA (aheadP ⟨⟨1, xt, xn, xa, true⟩ :: r, names⟩ 0) = .agg #[.int .i64 (1), .string xt, .int .i64 xn, .int .i64 (xa : Int), .bool true]) := by show _ = _; rfl
 have HU : Hid (sgA (aheadP ⟨⟨1, xt, xn, xa, true⟩ :: r, names⟩ 1) = .agg #[.int .i64 (uk), .string ut, .int .i64 un, .int .i64 (ua : Int), .bool ub]) := by show _ = _; rw [hu]
 have HV : Hid (sgA (aheadP ⟨⟨1, xt, xn, xa, true⟩ :: r, names⟩ 2) = .agg #[.int .i64 (vk), .string vt, .int .i64 vn, .int .i64 (va : Int), .bool vb]) := by show _ = _; rw [hv]
 have HL : Hid (L.length ≤ 3000) := hL
 have HTC : Hid (TermCI f g m L lv) := hT
 have HF : Hid (d + f = 130) := hf
 have HKW : Hid (W.heap[w.heap.size]? = some (.cells #[.int .i64 0, .string ⟨#[]⟩, .int .i64 0, .slice none 0 0] 24 (0, 0)) ∧ W.heap.size = w.heap.size + 1) := ⟨kW, sW⟩
 have HBW : Hid (Below w.heap.size w W) := bW
 have HM : Hid (∀ (a : Int) (b : ByteArray) (c : Int) (dd : Nat) (e : Bool) (q : ByteArray) (w1 : World), Calls Tryz.prog 88 #[.agg #[.int .i64 a, .string b, .int .i64 c, .int .i64 (dd : Int), .bool e], .string q] w1 fun e' w' => e' = .returned (.bool (markB ⟨a, b, c, dd, e⟩ q)) ∧ Below w1.heap.size w1 w') := fun a b c dd e q w1 => i_isMark ⟨a, b, c, dd, e⟩ q w1
 clear hT h bW kW sW hf hL hu hv
 obtain ⟨R, hR⟩ : ∃ R, R = namedO (termO false f) xt r names := ⟨_, rfl⟩
 rw [← hR]
 have HZ : Hid (xt.size ≤ 3000) := ht
 clear ht
 go_enter Tryz.func73, Tryz.ntmps73
 go_upto_region 2 with (first
   | (go_at_call 86; rw [← hW]; refine (Calls.mono HA0.out ?_); rintro e w1 ⟨rfl, hb⟩; rw [HX.out]; have HB1 : Hid (Below W.heap.size W w1) := hb; clear hb)
   | (go_at_call 86; refine (Calls.mono (HA1.out _ HB1.out) ?_); rintro e w2 ⟨rfl, hb⟩; rw [HU.out]; have HB2 : Hid (Below W.heap.size W w2) := HB1.out.trans (hb.mono HB1.out.size); clear hb))
 obtain ⟨W2, hW2⟩ : ∃ W2, W2 = (w2.alloc (.cells #[.int .i64 (1), .string xt, .int .i64 xn, .int .i64 (xa : Int), .bool true] 45)).alloc (.cells #[.int .i64 (uk), .string ut, .int .i64 un, .int .i64 (ua : Int), .bool ub] 45) := ⟨_, rfl⟩
 rw [← hW2]
 have bW2 : Below w2.heap.size w2 W2 := by rw [hW2]; exact ((Below.refl _ _).alloc (Nat.le_refl _) _).alloc (by simp) _
 have kx : W2.heap[w2.heap.size]? = some (.cells #[.int .i64 (1), .string xt, .int .i64 xn, .int .i64 (xa : Int), .bool true] 45 (0, 0)) := by rw [hW2]; exact (alloc_old _ _ (by simp)).trans (heap_alloc_new _ _)
 have ku : W2.heap[w2.heap.size + 1]? = some (.cells #[.int .i64 (uk), .string ut, .int .i64 un, .int .i64 (ua : Int), .bool ub] 45 (0, 0)) := by rw [hW2]; exact alloc_at _ _ (by simp)
 have sW2 : W2.heap.size = w2.heap.size + 2 := by rw [hW2]; simp
 obtain ⟨BX, hBX⟩ : ∃ BX, BX = w2.heap.size := ⟨_, rfl⟩
 obtain ⟨BU, hBU⟩ : ∃ BU, BU = BX + 1 := ⟨_, rfl⟩
 rw [← hBX] at kx ku ⊢
 rw [← hBU] at ku ⊢
 have bb : Below W.heap.size W W2 := HB2.out.trans (bW2.mono HB2.out.size)
 have bw : Below w.heap.size w W2 := HBW.out.trans (bb.mono HBW.out.size)
 have HC : Hid (∀ w', Below W2.heap.size W2 w' → w'.cell? ⟨BX, 0, none⟩ = some (.int .i64 1) ∧ w'.cell? ⟨BX, 1, none⟩ = some (.string xt) ∧ w'.cell? ⟨BX, 2, none⟩ = some (.int .i64 xn) ∧ w'.cell? ⟨BX, 3, none⟩ = some (.int .i64 (xa : Int)) ∧ w'.cell? ⟨BX, 4, none⟩ = some (.bool true) ∧ w'.cell? ⟨BU, 0, none⟩ = some (.int .i64 uk) ∧ w'.cell? ⟨BU, 1, none⟩ = some (.string ut) ∧ w'.cell? ⟨BU, 2, none⟩ = some (.int .i64 un) ∧ w'.cell? ⟨BU, 3, none⟩ = some (.int .i64 (ua : Int)) ∧ w'.cell? ⟨BU, 4, none⟩ = some (.bool ub)) := fun w' hb => by
   obtain ⟨a0, a1, a2, a3, a4, _⟩ := b5f ((hb.block BX (by omega)).trans kx)
   obtain ⟨b0, b1, b2, b3, b4, _⟩ := b5f ((hb.block BU (by omega)).trans ku)
   exact ⟨a0, a1, a2, a3, a4, b0, b1, b2, b3, b4⟩
 have HIW : Hid (∀ w', Below W2.heap.size W2 w' → IRd g m L lv nv w' d ⟨⟨1, xt, xn, xa, true⟩ :: r, names⟩) := fun w' hb => (HH.out.keep bw).keep hb
 have HXW : Hid (∀ w', Below W2.heap.size W2 w' → FX (XI g m nv) (XI g m nv) w w') := fun w' hb => FX.of_below (bw.trans (hb.mono bw.size))
 have HRW : Hid (∀ w', Below W2.heap.size W2 w' → w.heap.size + 1 ≤ w'.heap.size ∧ w'.heap[w.heap.size]? = some (.cells #[.int .i64 0, .string ⟨#[]⟩, .int .i64 0, .slice none 0 0] 24 (0, 0))) := fun w' hb => by
   have h1 := HKW.out.2
   have h2 := bb.size
   have h3 := hb.size
   exact ⟨by omega, (hb.block _ (by omega)).trans ((bb.block _ (by omega)).trans HKW.out.1)⟩
 have HA3 : Hid (∀ w1, Below W2.heap.size W2 w1 → _) := fun w1 hb => HA2.out w1 (bb.trans (hb.mono bb.size))
 have HB0 : Hid (Below W2.heap.size W2 W2) := Below.refl _ _
 have HBX : Hid (w.heap.size < BX ∧ w.heap.size < BU) := ⟨by have := HKW.out.2; have := HB2.out.size; omega, by have := HKW.out.2; have := HB2.out.size; omega⟩
 obtain ⟨wq, hwq⟩ : ∃ wq, wq = W2 := ⟨_, rfl⟩
 have HB : Hid (Below W2.heap.size W2 wq) := by rw [hwq]; exact HB0.out
 rw [← hwq]
 obtain ⟨c0, c1, c2, c3, c4, e0, e1, e2, e3, e4⟩ := HC.out wq HB.out
 clear hwq HB0 hW2 bW2 kx ku hBX hBU bb bw HA0 HA1 HA2 HB1 HB2 hW sW2 HKW
 go_upto_region 3 with (first
   | (go_at_call 86; refine (Calls.mono (HA3.out _ HB.out) ?_); rintro e wq ⟨rfl, hb⟩; rw [HV.out]; replace HB := Hid.trans2 HB hb; obtain ⟨c0, c1, c2, c3, c4, e0, e1, e2, e3, e4⟩ := HC.out wq HB.out; clear hb)
   | (go_at_call 88; refine (Calls.mono (HM.out _ _ _ _ _ _ _) ?_); rintro e wq ⟨rfl, hb⟩; replace HB := Hid.trans2 HB hb; obtain ⟨c0, c1, c2, c3, c4, e0, e1, e2, e3, e4⟩ := HC.out wq HB.out; clear hb))
 have HCL := i_named f g m L lv nv d ⟨1, xt, xn, xa, true⟩ r names xt wq HL.out HZ.out HF.out HTC.out (HIW.out _ HB.out)
 rw [← hR] at HCL
 have h0 := HRW.out _ HB.out
 have x0 := HXW.out _ HB.out
 have HR0 : Hid _ := h0
 have HX0 : Hid _ := x0
 clear h0 x0 hR
 cases R with
 | none =>
   have HCN : Hid _ := HCL
   clear HCL
   go_wp2_with (go_at_call 87; refine (Calls.mono HCN.out ?_); rintro e w5 ⟨rfl, nv5, hx⟩; have HX5 : Hid (FX (XI g m nv) (XI g m nv5) _ w5) := hx; clear hx)
   exact ⟨rfl, rfl, nv5, HX0.out.trans HX5.out⟩
 | some y =>
   have HCN : Hid _ := HCL
   clear HCL
   go_wp2_with (go_at_call 87; refine (Calls.mono HCN.out ?_); rintro e w5 ⟨v, rfl, F, nv5, ht, hi, hx⟩; obtain ⟨k1, s1, n1, ao1, ln1, cp1, rfl⟩ := ht.form; have hkk := fin_keep HH.out (by have := HR0.out.1; omega) hx; have hk5 := hkk.2.trans HR0.out.2; obtain ⟨q0, q1, q2, q3, fz0, fz1, fz2, fz3⟩ := blk4 hk5; have HK5 : Hid _ := hk5; have HN5 : Hid (¬ XI g m nv5 w.heap.size) := hkk.1; have HX5 : Hid (FX (XI g m nv) (XI g m nv5) w w5) := HX0.out.trans hx; have HT5 : Hid (TOk 24 (XI g m nv5) (w.heap.size + 1) w5 y.1 (.agg #[.int .i64 k1, .string s1, .int .i64 n1, .slice ao1 ln1 cp1]) F) := ht.lo_le HR0.out.1; have HI5 : Hid (IRd g m L lv nv5 w5 d y.2) := hi; clear ht hi hx hkk hk5)
   refine bodyPost_ret_by (results_ct2 rfl _ _ w.heap.size 24 _ (0, 0) _ rfl (blk4_set HK5.out) Tryz.underlying24 rfl (by kernel_rfl)) rfl ?_
   exact ⟨_, rfl, TmRI.fin HH.out HX5.out HN5.out HT5.out HI5.out rfl⟩
set_option maxHeartbeats 8000000 in
set_option maxRecDepth 20000 in
theorem i_prim_C1 (f g m : Nat) (L : List Sg) (lv nv : Value) (d : Nat) (most : Int) (xn : Int) (xa : Nat) (xb : Bool) (uk : Int) (ut : ByteArray) (un : Int) (ua : Nat) (ub : Bool) (vk : Int) (vt : ByteArray) (vn : Int) (va : Nat) (vb : Bool) (r : List Sg) (names : List ByteArray) (w : World) (hL : L.length ≤ 3000) (hf : d + f = 130) (hT : TermCI f g m L lv) (h : IRd g m L lv nv w d ⟨⟨4, ⟨#[40]⟩, xn, xa, xb⟩ :: r, names⟩) (hu : aheadP ⟨⟨4, ⟨#[40]⟩, xn, xa, xb⟩ :: r, names⟩ 1 = ⟨uk, ut, un, ua, ub⟩) (hv : aheadP ⟨⟨4, ⟨#[40]⟩, xn, xa, xb⟩ :: r, names⟩ 2 = ⟨vk, vt, vn, va, vb⟩) (hk : (uk == 1) = false) :
   Calls Tryz.prog 73 #[.pointer (some ⟨g, 0, none⟩), .int .i64 most] w fun e w' => EndP g m L lv nv w d ((roundT (termO false f) r names).map fun y => (y.1, 0, y.2)) e w' := by
 obtain ⟨W, hW⟩ : ∃ W, W = w.alloc (.cells #[.int .i64 0, .string ⟨#[]⟩, .int .i64 0, .slice none 0 0] 24) := ⟨_, rfl⟩
 have bW : Below w.heap.size w W := by rw [hW]; exact (Below.refl _ _).alloc (Nat.le_refl _) _
 have sW : W.heap.size = w.heap.size + 1 := by rw [hW]; simp
 have kW : W.heap[w.heap.size]? = some (.cells #[.int .i64 0, .string ⟨#[]⟩, .int .i64 0, .slice none 0 0] 24 (0, 0)) := by rw [hW]; exact heap_alloc_new _ _
 have HH : Hid (IRd g m L lv nv w d ⟨⟨4, ⟨#[40]⟩, xn, xa, xb⟩ :: r, names⟩) := h
 have HA0 : Hid _ := i_ahead g m L lv nv d ⟨⟨4, ⟨#[40]⟩, xn, xa, xb⟩ :: r, names⟩ 0 W (by omega) hL (h.keep bW)
 have HA1 : Hid (∀ w1, Below W.heap.size W w1 → _) := fun w1 hb => i_ahead g m L lv nv d ⟨⟨4, ⟨#[40]⟩, xn, xa, xb⟩ :: r, names⟩ 1 w1 (by omega) hL ((h.keep bW).keep hb)
 have HA2 : Hid (∀ w1, Below W.heap.size W w1 → _) := fun w1 hb => i_ahead g m L lv nv d ⟨⟨4, ⟨#[40]⟩, xn, xa, xb⟩ :: r, names⟩ 2 w1 (by omega) hL ((h.keep bW).keep hb)
 have HX : Hid (sgA (aheadP ⟨⟨4, ⟨#[40]⟩, xn, xa, xb⟩ :: r, names⟩ 0) = .agg #[.int .i64 (4), .string ⟨#[40]⟩, .int .i64 xn, .int .i64 (xa : Int), .bool xb]) := by show _ = _; rfl
 have HU : Hid (sgA (aheadP ⟨⟨4, ⟨#[40]⟩, xn, xa, xb⟩ :: r, names⟩ 1) = .agg #[.int .i64 (uk), .string ut, .int .i64 un, .int .i64 (ua : Int), .bool ub]) := by show _ = _; rw [hu]
 have HV : Hid (sgA (aheadP ⟨⟨4, ⟨#[40]⟩, xn, xa, xb⟩ :: r, names⟩ 2) = .agg #[.int .i64 (vk), .string vt, .int .i64 vn, .int .i64 (va : Int), .bool vb]) := by show _ = _; rw [hv]
 have HL : Hid (L.length ≤ 3000) := hL
 have HTC : Hid (TermCI f g m L lv) := hT
 have HF : Hid (d + f = 130) := hf
 have HKW : Hid (W.heap[w.heap.size]? = some (.cells #[.int .i64 0, .string ⟨#[]⟩, .int .i64 0, .slice none 0 0] 24 (0, 0)) ∧ W.heap.size = w.heap.size + 1) := ⟨kW, sW⟩
 have HBW : Hid (Below w.heap.size w W) := bW
 have HM : Hid (∀ (a : Int) (b : ByteArray) (c : Int) (dd : Nat) (e : Bool) (q : ByteArray) (w1 : World), Calls Tryz.prog 88 #[.agg #[.int .i64 a, .string b, .int .i64 c, .int .i64 (dd : Int), .bool e], .string q] w1 fun e' w' => e' = .returned (.bool (markB ⟨a, b, c, dd, e⟩ q)) ∧ Below w1.heap.size w1 w') := fun a b c dd e q w1 => i_isMark ⟨a, b, c, dd, e⟩ q w1
 clear hT h bW kW sW hf hL hu hv
 obtain ⟨R, hR⟩ : ∃ R, R = roundT (termO false f) r names := ⟨_, rfl⟩
 rw [← hR]
 have m1 : markB ⟨4, ⟨#[40]⟩, xn, xa, xb⟩ ⟨#[40]⟩ = true := by simp [markB]
 go_enter Tryz.func73, Tryz.ntmps73
 go_upto_region 2 with (first
   | (go_at_call 86; rw [← hW]; refine (Calls.mono HA0.out ?_); rintro e w1 ⟨rfl, hb⟩; rw [HX.out]; have HB1 : Hid (Below W.heap.size W w1) := hb; clear hb)
   | (go_at_call 86; refine (Calls.mono (HA1.out _ HB1.out) ?_); rintro e w2 ⟨rfl, hb⟩; rw [HU.out]; have HB2 : Hid (Below W.heap.size W w2) := HB1.out.trans (hb.mono HB1.out.size); clear hb))
 obtain ⟨W2, hW2⟩ : ∃ W2, W2 = (w2.alloc (.cells #[.int .i64 (4), .string ⟨#[40]⟩, .int .i64 xn, .int .i64 (xa : Int), .bool xb] 45)).alloc (.cells #[.int .i64 (uk), .string ut, .int .i64 un, .int .i64 (ua : Int), .bool ub] 45) := ⟨_, rfl⟩
 rw [← hW2]
 have bW2 : Below w2.heap.size w2 W2 := by rw [hW2]; exact ((Below.refl _ _).alloc (Nat.le_refl _) _).alloc (by simp) _
 have kx : W2.heap[w2.heap.size]? = some (.cells #[.int .i64 (4), .string ⟨#[40]⟩, .int .i64 xn, .int .i64 (xa : Int), .bool xb] 45 (0, 0)) := by rw [hW2]; exact (alloc_old _ _ (by simp)).trans (heap_alloc_new _ _)
 have ku : W2.heap[w2.heap.size + 1]? = some (.cells #[.int .i64 (uk), .string ut, .int .i64 un, .int .i64 (ua : Int), .bool ub] 45 (0, 0)) := by rw [hW2]; exact alloc_at _ _ (by simp)
 have sW2 : W2.heap.size = w2.heap.size + 2 := by rw [hW2]; simp
 obtain ⟨BX, hBX⟩ : ∃ BX, BX = w2.heap.size := ⟨_, rfl⟩
 obtain ⟨BU, hBU⟩ : ∃ BU, BU = BX + 1 := ⟨_, rfl⟩
 rw [← hBX] at kx ku ⊢
 rw [← hBU] at ku ⊢
 have bb : Below W.heap.size W W2 := HB2.out.trans (bW2.mono HB2.out.size)
 have bw : Below w.heap.size w W2 := HBW.out.trans (bb.mono HBW.out.size)
 have HC : Hid (∀ w', Below W2.heap.size W2 w' → w'.cell? ⟨BX, 0, none⟩ = some (.int .i64 4) ∧ w'.cell? ⟨BX, 1, none⟩ = some (.string ⟨#[40]⟩) ∧ w'.cell? ⟨BX, 2, none⟩ = some (.int .i64 xn) ∧ w'.cell? ⟨BX, 3, none⟩ = some (.int .i64 (xa : Int)) ∧ w'.cell? ⟨BX, 4, none⟩ = some (.bool xb) ∧ w'.cell? ⟨BU, 0, none⟩ = some (.int .i64 uk) ∧ w'.cell? ⟨BU, 1, none⟩ = some (.string ut) ∧ w'.cell? ⟨BU, 2, none⟩ = some (.int .i64 un) ∧ w'.cell? ⟨BU, 3, none⟩ = some (.int .i64 (ua : Int)) ∧ w'.cell? ⟨BU, 4, none⟩ = some (.bool ub)) := fun w' hb => by
   obtain ⟨a0, a1, a2, a3, a4, _⟩ := b5f ((hb.block BX (by omega)).trans kx)
   obtain ⟨b0, b1, b2, b3, b4, _⟩ := b5f ((hb.block BU (by omega)).trans ku)
   exact ⟨a0, a1, a2, a3, a4, b0, b1, b2, b3, b4⟩
 have HIW : Hid (∀ w', Below W2.heap.size W2 w' → IRd g m L lv nv w' d ⟨⟨4, ⟨#[40]⟩, xn, xa, xb⟩ :: r, names⟩) := fun w' hb => (HH.out.keep bw).keep hb
 have HXW : Hid (∀ w', Below W2.heap.size W2 w' → FX (XI g m nv) (XI g m nv) w w') := fun w' hb => FX.of_below (bw.trans (hb.mono bw.size))
 have HRW : Hid (∀ w', Below W2.heap.size W2 w' → w.heap.size + 1 ≤ w'.heap.size ∧ w'.heap[w.heap.size]? = some (.cells #[.int .i64 0, .string ⟨#[]⟩, .int .i64 0, .slice none 0 0] 24 (0, 0))) := fun w' hb => by
   have h1 := HKW.out.2
   have h2 := bb.size
   have h3 := hb.size
   exact ⟨by omega, (hb.block _ (by omega)).trans ((bb.block _ (by omega)).trans HKW.out.1)⟩
 have HA3 : Hid (∀ w1, Below W2.heap.size W2 w1 → _) := fun w1 hb => HA2.out w1 (bb.trans (hb.mono bb.size))
 have HB0 : Hid (Below W2.heap.size W2 W2) := Below.refl _ _
 have HBX : Hid (w.heap.size < BX ∧ w.heap.size < BU) := ⟨by have := HKW.out.2; have := HB2.out.size; omega, by have := HKW.out.2; have := HB2.out.size; omega⟩
 obtain ⟨wq, hwq⟩ : ∃ wq, wq = W2 := ⟨_, rfl⟩
 have HB : Hid (Below W2.heap.size W2 wq) := by rw [hwq]; exact HB0.out
 rw [← hwq]
 obtain ⟨c0, c1, c2, c3, c4, e0, e1, e2, e3, e4⟩ := HC.out wq HB.out
 clear hwq HB0 hW2 bW2 kx ku hBX hBU bb bw HA0 HA1 HA2 HB1 HB2 hW sW2 HKW
 go_upto_region 8 with (first
   | (go_at_call 86; refine (Calls.mono (HA3.out _ HB.out) ?_); rintro e wq ⟨rfl, hb⟩; rw [HV.out]; replace HB := Hid.trans2 HB hb; obtain ⟨c0, c1, c2, c3, c4, e0, e1, e2, e3, e4⟩ := HC.out wq HB.out; clear hb)
   | (go_at_call 88; refine (Calls.mono (HM.out _ _ _ _ _ _ _) ?_); rintro e wq ⟨rfl, hb⟩; replace HB := Hid.trans2 HB hb; obtain ⟨c0, c1, c2, c3, c4, e0, e1, e2, e3, e4⟩ := HC.out wq HB.out; clear hb))
 have HCL := i_bracketed f g m L lv nv d ⟨4, ⟨#[40]⟩, xn, xa, xb⟩ r names wq HL.out HF.out HTC.out (HIW.out _ HB.out)
 rw [← hR] at HCL
 have h0 := HRW.out _ HB.out
 have x0 := HXW.out _ HB.out
 have HR0 : Hid _ := h0
 have HX0 : Hid _ := x0
 clear h0 x0 hR
 cases R with
 | none =>
   have HCN : Hid _ := HCL
   clear HCL
   go_wp2_with (go_at_call 90; refine (Calls.mono HCN.out ?_); rintro e w5 ⟨rfl, nv5, hx⟩; have HX5 : Hid (FX (XI g m nv) (XI g m nv5) _ w5) := hx; clear hx)
   exact ⟨rfl, rfl, nv5, HX0.out.trans HX5.out⟩
 | some y =>
   have HCN : Hid _ := HCL
   clear HCL
   go_wp2_with (go_at_call 90; refine (Calls.mono HCN.out ?_); rintro e w5 ⟨v, rfl, F, nv5, ht, hi, hx⟩; obtain ⟨k1, s1, n1, ao1, ln1, cp1, rfl⟩ := ht.form; have hkk := fin_keep HH.out (by have := HR0.out.1; omega) hx; have hk5 := hkk.2.trans HR0.out.2; obtain ⟨q0, q1, q2, q3, fz0, fz1, fz2, fz3⟩ := blk4 hk5; have HK5 : Hid _ := hk5; have HN5 : Hid (¬ XI g m nv5 w.heap.size) := hkk.1; have HX5 : Hid (FX (XI g m nv) (XI g m nv5) w w5) := HX0.out.trans hx; have HT5 : Hid (TOk 24 (XI g m nv5) (w.heap.size + 1) w5 y.1 (.agg #[.int .i64 k1, .string s1, .int .i64 n1, .slice ao1 ln1 cp1]) F) := ht.lo_le HR0.out.1; have HI5 : Hid (IRd g m L lv nv5 w5 d y.2) := hi; clear ht hi hx hkk hk5)
   refine bodyPost_ret_by (results_ct2 rfl _ _ w.heap.size 24 _ (0, 0) _ rfl (blk4_set HK5.out) Tryz.underlying24 rfl (by kernel_rfl)) rfl ?_
   exact ⟨_, rfl, TmRI.fin HH.out HX5.out HN5.out HT5.out HI5.out rfl⟩
set_option maxHeartbeats 8000000 in
set_option maxRecDepth 20000 in
theorem i_prim_C2 (f g m : Nat) (L : List Sg) (lv nv : Value) (d : Nat) (most : Int) (xn : Int) (xa : Nat) (xb : Bool) (ut : ByteArray) (un : Int) (ua : Nat) (ub : Bool) (vk : Int) (vt : ByteArray) (vn : Int) (va : Nat) (vb : Bool) (r : List Sg) (names : List ByteArray) (w : World) (hL : L.length ≤ 3000) (hf : d + f = 130) (hT : TermCI f g m L lv) (h : IRd g m L lv nv w d ⟨⟨4, ⟨#[40]⟩, xn, xa, xb⟩ :: r, names⟩) (hu : aheadP ⟨⟨4, ⟨#[40]⟩, xn, xa, xb⟩ :: r, names⟩ 1 = ⟨1, ut, un, ua, ub⟩) (hv : aheadP ⟨⟨4, ⟨#[40]⟩, xn, xa, xb⟩ :: r, names⟩ 2 = ⟨vk, vt, vn, va, vb⟩) (hm : markB ⟨vk, vt, vn, va, vb⟩ ⟨#[41]⟩ = false) :
   Calls Tryz.prog 73 #[.pointer (some ⟨g, 0, none⟩), .int .i64 most] w fun e w' => EndP g m L lv nv w d ((roundT (termO false f) r names).map fun y => (y.1, 0, y.2)) e w' := by
 obtain ⟨W, hW⟩ : ∃ W, W = w.alloc (.cells #[.int .i64 0, .string ⟨#[]⟩, .int .i64 0, .slice none 0 0] 24) := ⟨_, rfl⟩
 have bW : Below w.heap.size w W := by rw [hW]; exact (Below.refl _ _).alloc (Nat.le_refl _) _
 have sW : W.heap.size = w.heap.size + 1 := by rw [hW]; simp
 have kW : W.heap[w.heap.size]? = some (.cells #[.int .i64 0, .string ⟨#[]⟩, .int .i64 0, .slice none 0 0] 24 (0, 0)) := by rw [hW]; exact heap_alloc_new _ _
 have HH : Hid (IRd g m L lv nv w d ⟨⟨4, ⟨#[40]⟩, xn, xa, xb⟩ :: r, names⟩) := h
 have HA0 : Hid _ := i_ahead g m L lv nv d ⟨⟨4, ⟨#[40]⟩, xn, xa, xb⟩ :: r, names⟩ 0 W (by omega) hL (h.keep bW)
 have HA1 : Hid (∀ w1, Below W.heap.size W w1 → _) := fun w1 hb => i_ahead g m L lv nv d ⟨⟨4, ⟨#[40]⟩, xn, xa, xb⟩ :: r, names⟩ 1 w1 (by omega) hL ((h.keep bW).keep hb)
 have HA2 : Hid (∀ w1, Below W.heap.size W w1 → _) := fun w1 hb => i_ahead g m L lv nv d ⟨⟨4, ⟨#[40]⟩, xn, xa, xb⟩ :: r, names⟩ 2 w1 (by omega) hL ((h.keep bW).keep hb)
 have HX : Hid (sgA (aheadP ⟨⟨4, ⟨#[40]⟩, xn, xa, xb⟩ :: r, names⟩ 0) = .agg #[.int .i64 (4), .string ⟨#[40]⟩, .int .i64 xn, .int .i64 (xa : Int), .bool xb]) := by show _ = _; rfl
 have HU : Hid (sgA (aheadP ⟨⟨4, ⟨#[40]⟩, xn, xa, xb⟩ :: r, names⟩ 1) = .agg #[.int .i64 (1), .string ut, .int .i64 un, .int .i64 (ua : Int), .bool ub]) := by show _ = _; rw [hu]
 have HV : Hid (sgA (aheadP ⟨⟨4, ⟨#[40]⟩, xn, xa, xb⟩ :: r, names⟩ 2) = .agg #[.int .i64 (vk), .string vt, .int .i64 vn, .int .i64 (va : Int), .bool vb]) := by show _ = _; rw [hv]
 have HL : Hid (L.length ≤ 3000) := hL
 have HTC : Hid (TermCI f g m L lv) := hT
 have HF : Hid (d + f = 130) := hf
 have HKW : Hid (W.heap[w.heap.size]? = some (.cells #[.int .i64 0, .string ⟨#[]⟩, .int .i64 0, .slice none 0 0] 24 (0, 0)) ∧ W.heap.size = w.heap.size + 1) := ⟨kW, sW⟩
 have HBW : Hid (Below w.heap.size w W) := bW
 have HM : Hid (∀ (a : Int) (b : ByteArray) (c : Int) (dd : Nat) (e : Bool) (q : ByteArray) (w1 : World), Calls Tryz.prog 88 #[.agg #[.int .i64 a, .string b, .int .i64 c, .int .i64 (dd : Int), .bool e], .string q] w1 fun e' w' => e' = .returned (.bool (markB ⟨a, b, c, dd, e⟩ q)) ∧ Below w1.heap.size w1 w') := fun a b c dd e q w1 => i_isMark ⟨a, b, c, dd, e⟩ q w1
 clear hT h bW kW sW hf hL hu hv
 obtain ⟨R, hR⟩ : ∃ R, R = roundT (termO false f) r names := ⟨_, rfl⟩
 rw [← hR]
 have m1 : markB ⟨4, ⟨#[40]⟩, xn, xa, xb⟩ ⟨#[40]⟩ = true := by simp [markB]
 go_enter Tryz.func73, Tryz.ntmps73
 go_upto_region 2 with (first
   | (go_at_call 86; rw [← hW]; refine (Calls.mono HA0.out ?_); rintro e w1 ⟨rfl, hb⟩; rw [HX.out]; have HB1 : Hid (Below W.heap.size W w1) := hb; clear hb)
   | (go_at_call 86; refine (Calls.mono (HA1.out _ HB1.out) ?_); rintro e w2 ⟨rfl, hb⟩; rw [HU.out]; have HB2 : Hid (Below W.heap.size W w2) := HB1.out.trans (hb.mono HB1.out.size); clear hb))
 obtain ⟨W2, hW2⟩ : ∃ W2, W2 = (w2.alloc (.cells #[.int .i64 (4), .string ⟨#[40]⟩, .int .i64 xn, .int .i64 (xa : Int), .bool xb] 45)).alloc (.cells #[.int .i64 (1), .string ut, .int .i64 un, .int .i64 (ua : Int), .bool ub] 45) := ⟨_, rfl⟩
 rw [← hW2]
 have bW2 : Below w2.heap.size w2 W2 := by rw [hW2]; exact ((Below.refl _ _).alloc (Nat.le_refl _) _).alloc (by simp) _
 have kx : W2.heap[w2.heap.size]? = some (.cells #[.int .i64 (4), .string ⟨#[40]⟩, .int .i64 xn, .int .i64 (xa : Int), .bool xb] 45 (0, 0)) := by rw [hW2]; exact (alloc_old _ _ (by simp)).trans (heap_alloc_new _ _)
 have ku : W2.heap[w2.heap.size + 1]? = some (.cells #[.int .i64 (1), .string ut, .int .i64 un, .int .i64 (ua : Int), .bool ub] 45 (0, 0)) := by rw [hW2]; exact alloc_at _ _ (by simp)
 have sW2 : W2.heap.size = w2.heap.size + 2 := by rw [hW2]; simp
 obtain ⟨BX, hBX⟩ : ∃ BX, BX = w2.heap.size := ⟨_, rfl⟩
 obtain ⟨BU, hBU⟩ : ∃ BU, BU = BX + 1 := ⟨_, rfl⟩
 rw [← hBX] at kx ku ⊢
 rw [← hBU] at ku ⊢
 have bb : Below W.heap.size W W2 := HB2.out.trans (bW2.mono HB2.out.size)
 have bw : Below w.heap.size w W2 := HBW.out.trans (bb.mono HBW.out.size)
 have HC : Hid (∀ w', Below W2.heap.size W2 w' → w'.cell? ⟨BX, 0, none⟩ = some (.int .i64 4) ∧ w'.cell? ⟨BX, 1, none⟩ = some (.string ⟨#[40]⟩) ∧ w'.cell? ⟨BX, 2, none⟩ = some (.int .i64 xn) ∧ w'.cell? ⟨BX, 3, none⟩ = some (.int .i64 (xa : Int)) ∧ w'.cell? ⟨BX, 4, none⟩ = some (.bool xb) ∧ w'.cell? ⟨BU, 0, none⟩ = some (.int .i64 1) ∧ w'.cell? ⟨BU, 1, none⟩ = some (.string ut) ∧ w'.cell? ⟨BU, 2, none⟩ = some (.int .i64 un) ∧ w'.cell? ⟨BU, 3, none⟩ = some (.int .i64 (ua : Int)) ∧ w'.cell? ⟨BU, 4, none⟩ = some (.bool ub)) := fun w' hb => by
   obtain ⟨a0, a1, a2, a3, a4, _⟩ := b5f ((hb.block BX (by omega)).trans kx)
   obtain ⟨b0, b1, b2, b3, b4, _⟩ := b5f ((hb.block BU (by omega)).trans ku)
   exact ⟨a0, a1, a2, a3, a4, b0, b1, b2, b3, b4⟩
 have HIW : Hid (∀ w', Below W2.heap.size W2 w' → IRd g m L lv nv w' d ⟨⟨4, ⟨#[40]⟩, xn, xa, xb⟩ :: r, names⟩) := fun w' hb => (HH.out.keep bw).keep hb
 have HXW : Hid (∀ w', Below W2.heap.size W2 w' → FX (XI g m nv) (XI g m nv) w w') := fun w' hb => FX.of_below (bw.trans (hb.mono bw.size))
 have HRW : Hid (∀ w', Below W2.heap.size W2 w' → w.heap.size + 1 ≤ w'.heap.size ∧ w'.heap[w.heap.size]? = some (.cells #[.int .i64 0, .string ⟨#[]⟩, .int .i64 0, .slice none 0 0] 24 (0, 0))) := fun w' hb => by
   have h1 := HKW.out.2
   have h2 := bb.size
   have h3 := hb.size
   exact ⟨by omega, (hb.block _ (by omega)).trans ((bb.block _ (by omega)).trans HKW.out.1)⟩
 have HA3 : Hid (∀ w1, Below W2.heap.size W2 w1 → _) := fun w1 hb => HA2.out w1 (bb.trans (hb.mono bb.size))
 have HB0 : Hid (Below W2.heap.size W2 W2) := Below.refl _ _
 have HBX : Hid (w.heap.size < BX ∧ w.heap.size < BU) := ⟨by have := HKW.out.2; have := HB2.out.size; omega, by have := HKW.out.2; have := HB2.out.size; omega⟩
 obtain ⟨wq, hwq⟩ : ∃ wq, wq = W2 := ⟨_, rfl⟩
 have HB : Hid (Below W2.heap.size W2 wq) := by rw [hwq]; exact HB0.out
 rw [← hwq]
 obtain ⟨c0, c1, c2, c3, c4, e0, e1, e2, e3, e4⟩ := HC.out wq HB.out
 clear hwq HB0 hW2 bW2 kx ku hBX hBU bb bw HA0 HA1 HA2 HB1 HB2 hW sW2 HKW
 go_upto_region 8 with (first
   | (go_at_call 86; refine (Calls.mono (HA3.out _ HB.out) ?_); rintro e wq ⟨rfl, hb⟩; rw [HV.out]; replace HB := Hid.trans2 HB hb; obtain ⟨c0, c1, c2, c3, c4, e0, e1, e2, e3, e4⟩ := HC.out wq HB.out; clear hb)
   | (go_at_call 88; refine (Calls.mono (HM.out _ _ _ _ _ _ _) ?_); rintro e wq ⟨rfl, hb⟩; replace HB := Hid.trans2 HB hb; obtain ⟨c0, c1, c2, c3, c4, e0, e1, e2, e3, e4⟩ := HC.out wq HB.out; clear hb))
 have HCL := i_bracketed f g m L lv nv d ⟨4, ⟨#[40]⟩, xn, xa, xb⟩ r names wq HL.out HF.out HTC.out (HIW.out _ HB.out)
 rw [← hR] at HCL
 have h0 := HRW.out _ HB.out
 have x0 := HXW.out _ HB.out
 have HR0 : Hid _ := h0
 have HX0 : Hid _ := x0
 clear h0 x0 hR
 cases R with
 | none =>
   have HCN : Hid _ := HCL
   clear HCL
   go_wp2_with (go_at_call 90; refine (Calls.mono HCN.out ?_); rintro e w5 ⟨rfl, nv5, hx⟩; have HX5 : Hid (FX (XI g m nv) (XI g m nv5) _ w5) := hx; clear hx)
   exact ⟨rfl, rfl, nv5, HX0.out.trans HX5.out⟩
 | some y =>
   have HCN : Hid _ := HCL
   clear HCL
   go_wp2_with (go_at_call 90; refine (Calls.mono HCN.out ?_); rintro e w5 ⟨v, rfl, F, nv5, ht, hi, hx⟩; obtain ⟨k1, s1, n1, ao1, ln1, cp1, rfl⟩ := ht.form; have hkk := fin_keep HH.out (by have := HR0.out.1; omega) hx; have hk5 := hkk.2.trans HR0.out.2; obtain ⟨q0, q1, q2, q3, fz0, fz1, fz2, fz3⟩ := blk4 hk5; have HK5 : Hid _ := hk5; have HN5 : Hid (¬ XI g m nv5 w.heap.size) := hkk.1; have HX5 : Hid (FX (XI g m nv) (XI g m nv5) w w5) := HX0.out.trans hx; have HT5 : Hid (TOk 24 (XI g m nv5) (w.heap.size + 1) w5 y.1 (.agg #[.int .i64 k1, .string s1, .int .i64 n1, .slice ao1 ln1 cp1]) F) := ht.lo_le HR0.out.1; have HI5 : Hid (IRd g m L lv nv5 w5 d y.2) := hi; clear ht hi hx hkk hk5)
   refine bodyPost_ret_by (results_ct2 rfl _ _ w.heap.size 24 _ (0, 0) _ rfl (blk4_set HK5.out) Tryz.underlying24 rfl (by kernel_rfl)) rfl ?_
   exact ⟨_, rfl, TmRI.fin HH.out HX5.out HN5.out HT5.out HI5.out rfl⟩
set_option maxHeartbeats 8000000 in
set_option maxRecDepth 20000 in
theorem i_prim_B (f g m : Nat) (L : List Sg) (lv nv : Value) (d : Nat) (most : Int) (xn : Int) (xa : Nat) (xb : Bool) (ut : ByteArray) (un : Int) (ua : Nat) (ub : Bool) (vn : Int) (va : Nat) (vb : Bool) (r : List Sg) (names : List ByteArray) (w : World) (hL : L.length ≤ 3000) (hf : d + f = 130) (hT : TermCI f g m L lv) (h : IRd g m L lv nv w d ⟨⟨4, ⟨#[40]⟩, xn, xa, xb⟩ :: ⟨1, ut, un, ua, ub⟩ :: ⟨4, ⟨#[41]⟩, vn, va, vb⟩ :: r, names⟩) (ht : ut.size ≤ 3000) :
   Calls Tryz.prog 73 #[.pointer (some ⟨g, 0, none⟩), .int .i64 most] w fun e w' => EndP g m L lv nv w d (some (atomTm ut, 0, ⟨r, names⟩)) e w' := by
 obtain ⟨W, hW⟩ : ∃ W, W = w.alloc (.cells #[.int .i64 0, .string ⟨#[]⟩, .int .i64 0, .slice none 0 0] 24) := ⟨_, rfl⟩
 have bW : Below w.heap.size w W := by rw [hW]; exact (Below.refl _ _).alloc (Nat.le_refl _) _
 have sW : W.heap.size = w.heap.size + 1 := by rw [hW]; simp
 have kW : W.heap[w.heap.size]? = some (.cells #[.int .i64 0, .string ⟨#[]⟩, .int .i64 0, .slice none 0 0] 24 (0, 0)) := by rw [hW]; exact heap_alloc_new _ _
 have HH : Hid (IRd g m L lv nv w d ⟨⟨4, ⟨#[40]⟩, xn, xa, xb⟩ :: ⟨1, ut, un, ua, ub⟩ :: ⟨4, ⟨#[41]⟩, vn, va, vb⟩ :: r, names⟩) := h
 have HA0 : Hid _ := i_ahead g m L lv nv d ⟨⟨4, ⟨#[40]⟩, xn, xa, xb⟩ :: ⟨1, ut, un, ua, ub⟩ :: ⟨4, ⟨#[41]⟩, vn, va, vb⟩ :: r, names⟩ 0 W (by omega) hL (h.keep bW)
 have HA1 : Hid (∀ w1, Below W.heap.size W w1 → _) := fun w1 hb => i_ahead g m L lv nv d ⟨⟨4, ⟨#[40]⟩, xn, xa, xb⟩ :: ⟨1, ut, un, ua, ub⟩ :: ⟨4, ⟨#[41]⟩, vn, va, vb⟩ :: r, names⟩ 1 w1 (by omega) hL ((h.keep bW).keep hb)
 have HA2 : Hid (∀ w1, Below W.heap.size W w1 → _) := fun w1 hb => i_ahead g m L lv nv d ⟨⟨4, ⟨#[40]⟩, xn, xa, xb⟩ :: ⟨1, ut, un, ua, ub⟩ :: ⟨4, ⟨#[41]⟩, vn, va, vb⟩ :: r, names⟩ 2 w1 (by omega) hL ((h.keep bW).keep hb)
 have HX : Hid (sgA (aheadP ⟨⟨4, ⟨#[40]⟩, xn, xa, xb⟩ :: ⟨1, ut, un, ua, ub⟩ :: ⟨4, ⟨#[41]⟩, vn, va, vb⟩ :: r, names⟩ 0) = .agg #[.int .i64 (4), .string ⟨#[40]⟩, .int .i64 xn, .int .i64 (xa : Int), .bool xb]) := by show _ = _; rfl
 have HU : Hid (sgA (aheadP ⟨⟨4, ⟨#[40]⟩, xn, xa, xb⟩ :: ⟨1, ut, un, ua, ub⟩ :: ⟨4, ⟨#[41]⟩, vn, va, vb⟩ :: r, names⟩ 1) = .agg #[.int .i64 (1), .string ut, .int .i64 un, .int .i64 (ua : Int), .bool ub]) := by show _ = _; rfl
 have HV : Hid (sgA (aheadP ⟨⟨4, ⟨#[40]⟩, xn, xa, xb⟩ :: ⟨1, ut, un, ua, ub⟩ :: ⟨4, ⟨#[41]⟩, vn, va, vb⟩ :: r, names⟩ 2) = .agg #[.int .i64 (4), .string ⟨#[41]⟩, .int .i64 vn, .int .i64 (va : Int), .bool vb]) := by show _ = _; rfl
 have HL : Hid (L.length ≤ 3000) := hL
 have HTC : Hid (TermCI f g m L lv) := hT
 have HF : Hid (d + f = 130) := hf
 have HKW : Hid (W.heap[w.heap.size]? = some (.cells #[.int .i64 0, .string ⟨#[]⟩, .int .i64 0, .slice none 0 0] 24 (0, 0)) ∧ W.heap.size = w.heap.size + 1) := ⟨kW, sW⟩
 have HBW : Hid (Below w.heap.size w W) := bW
 have HM : Hid (∀ (a : Int) (b : ByteArray) (c : Int) (dd : Nat) (e : Bool) (q : ByteArray) (w1 : World), Calls Tryz.prog 88 #[.agg #[.int .i64 a, .string b, .int .i64 c, .int .i64 (dd : Int), .bool e], .string q] w1 fun e' w' => e' = .returned (.bool (markB ⟨a, b, c, dd, e⟩ q)) ∧ Below w1.heap.size w1 w') := fun a b c dd e q w1 => i_isMark ⟨a, b, c, dd, e⟩ q w1
 clear hT h bW kW sW hf hL
 have m1 : markB ⟨4, ⟨#[40]⟩, xn, xa, xb⟩ ⟨#[40]⟩ = true := by simp [markB]
 have m2 : markB ⟨4, ⟨#[41]⟩, vn, va, vb⟩ ⟨#[41]⟩ = true := by simp [markB]
 have HZ : Hid (ut.size ≤ 3000) := ht
 clear ht
 go_enter Tryz.func73, Tryz.ntmps73
 go_upto_region 2 with (first
   | (go_at_call 86; rw [← hW]; refine (Calls.mono HA0.out ?_); rintro e w1 ⟨rfl, hb⟩; rw [HX.out]; have HB1 : Hid (Below W.heap.size W w1) := hb; clear hb)
   | (go_at_call 86; refine (Calls.mono (HA1.out _ HB1.out) ?_); rintro e w2 ⟨rfl, hb⟩; rw [HU.out]; have HB2 : Hid (Below W.heap.size W w2) := HB1.out.trans (hb.mono HB1.out.size); clear hb))
 obtain ⟨W2, hW2⟩ : ∃ W2, W2 = (w2.alloc (.cells #[.int .i64 (4), .string ⟨#[40]⟩, .int .i64 xn, .int .i64 (xa : Int), .bool xb] 45)).alloc (.cells #[.int .i64 (1), .string ut, .int .i64 un, .int .i64 (ua : Int), .bool ub] 45) := ⟨_, rfl⟩
 rw [← hW2]
 have bW2 : Below w2.heap.size w2 W2 := by rw [hW2]; exact ((Below.refl _ _).alloc (Nat.le_refl _) _).alloc (by simp) _
 have kx : W2.heap[w2.heap.size]? = some (.cells #[.int .i64 (4), .string ⟨#[40]⟩, .int .i64 xn, .int .i64 (xa : Int), .bool xb] 45 (0, 0)) := by rw [hW2]; exact (alloc_old _ _ (by simp)).trans (heap_alloc_new _ _)
 have ku : W2.heap[w2.heap.size + 1]? = some (.cells #[.int .i64 (1), .string ut, .int .i64 un, .int .i64 (ua : Int), .bool ub] 45 (0, 0)) := by rw [hW2]; exact alloc_at _ _ (by simp)
 have sW2 : W2.heap.size = w2.heap.size + 2 := by rw [hW2]; simp
 obtain ⟨BX, hBX⟩ : ∃ BX, BX = w2.heap.size := ⟨_, rfl⟩
 obtain ⟨BU, hBU⟩ : ∃ BU, BU = BX + 1 := ⟨_, rfl⟩
 rw [← hBX] at kx ku ⊢
 rw [← hBU] at ku ⊢
 have bb : Below W.heap.size W W2 := HB2.out.trans (bW2.mono HB2.out.size)
 have bw : Below w.heap.size w W2 := HBW.out.trans (bb.mono HBW.out.size)
 have HC : Hid (∀ w', Below W2.heap.size W2 w' → w'.cell? ⟨BX, 0, none⟩ = some (.int .i64 4) ∧ w'.cell? ⟨BX, 1, none⟩ = some (.string ⟨#[40]⟩) ∧ w'.cell? ⟨BX, 2, none⟩ = some (.int .i64 xn) ∧ w'.cell? ⟨BX, 3, none⟩ = some (.int .i64 (xa : Int)) ∧ w'.cell? ⟨BX, 4, none⟩ = some (.bool xb) ∧ w'.cell? ⟨BU, 0, none⟩ = some (.int .i64 1) ∧ w'.cell? ⟨BU, 1, none⟩ = some (.string ut) ∧ w'.cell? ⟨BU, 2, none⟩ = some (.int .i64 un) ∧ w'.cell? ⟨BU, 3, none⟩ = some (.int .i64 (ua : Int)) ∧ w'.cell? ⟨BU, 4, none⟩ = some (.bool ub)) := fun w' hb => by
   obtain ⟨a0, a1, a2, a3, a4, _⟩ := b5f ((hb.block BX (by omega)).trans kx)
   obtain ⟨b0, b1, b2, b3, b4, _⟩ := b5f ((hb.block BU (by omega)).trans ku)
   exact ⟨a0, a1, a2, a3, a4, b0, b1, b2, b3, b4⟩
 have HIW : Hid (∀ w', Below W2.heap.size W2 w' → IRd g m L lv nv w' d ⟨⟨4, ⟨#[40]⟩, xn, xa, xb⟩ :: ⟨1, ut, un, ua, ub⟩ :: ⟨4, ⟨#[41]⟩, vn, va, vb⟩ :: r, names⟩) := fun w' hb => (HH.out.keep bw).keep hb
 have HXW : Hid (∀ w', Below W2.heap.size W2 w' → FX (XI g m nv) (XI g m nv) w w') := fun w' hb => FX.of_below (bw.trans (hb.mono bw.size))
 have HRW : Hid (∀ w', Below W2.heap.size W2 w' → w.heap.size + 1 ≤ w'.heap.size ∧ w'.heap[w.heap.size]? = some (.cells #[.int .i64 0, .string ⟨#[]⟩, .int .i64 0, .slice none 0 0] 24 (0, 0))) := fun w' hb => by
   have h1 := HKW.out.2
   have h2 := bb.size
   have h3 := hb.size
   exact ⟨by omega, (hb.block _ (by omega)).trans ((bb.block _ (by omega)).trans HKW.out.1)⟩
 have HA3 : Hid (∀ w1, Below W2.heap.size W2 w1 → _) := fun w1 hb => HA2.out w1 (bb.trans (hb.mono bb.size))
 have HB0 : Hid (Below W2.heap.size W2 W2) := Below.refl _ _
 have HBX : Hid (w.heap.size < BX ∧ w.heap.size < BU) := ⟨by have := HKW.out.2; have := HB2.out.size; omega, by have := HKW.out.2; have := HB2.out.size; omega⟩
 obtain ⟨wq, hwq⟩ : ∃ wq, wq = W2 := ⟨_, rfl⟩
 have HB : Hid (Below W2.heap.size W2 wq) := by rw [hwq]; exact HB0.out
 rw [← hwq]
 obtain ⟨c0, c1, c2, c3, c4, e0, e1, e2, e3, e4⟩ := HC.out wq HB.out
 clear hwq HB0 hW2 bW2 kx ku hBX hBU bb bw HA0 HA1 HA2 HB1 HB2 hW sW2 HKW
 go_upto_region 5 with (first
   | (go_at_call 86; refine (Calls.mono (HA3.out _ HB.out) ?_); rintro e wq ⟨rfl, hb⟩; rw [HV.out]; replace HB := Hid.trans2 HB hb; obtain ⟨c0, c1, c2, c3, c4, e0, e1, e2, e3, e4⟩ := HC.out wq HB.out; clear hb)
   | (go_at_call 88; refine (Calls.mono (HM.out _ _ _ _ _ _ _) ?_); rintro e wq ⟨rfl, hb⟩; replace HB := Hid.trans2 HB hb; obtain ⟨c0, c1, c2, c3, c4, e0, e1, e2, e3, e4⟩ := HC.out wq HB.out; clear hb))
 obtain ⟨p, k1, hp, f1, hI⟩ := IRd.skip (pre := [⟨4, ⟨#[40]⟩, xn, xa, xb⟩, ⟨1, ut, un, ua, ub⟩, ⟨4, ⟨#[41]⟩, vn, va, vb⟩]) (n := 3) rfl (HIW.out _ HB.out)
 have hwr : IntKind.i64.wrap ((p : Int) + 3) = ((p + 3 : Nat) : Int) := by have := HL.out; rw [IntKind.wrap_i64]; omega
 have hc : ((p + 3 : Nat) : Int) = (p : Int) + 3 := by omega
 rw [hc] at hwr hI
 obtain ⟨V, hV⟩ : ∃ V, V = wq.setCell ⟨g, 1, none⟩ (.int .i64 ((p : Int) + 3)) := ⟨_, rfl⟩
 rw [← hV] at hI
 have hgw := HH.out.lt.1
 have hbx := HBX.out
 have oE : ∀ k, k ≠ g → V.heap[k]? = wq.heap[k]? := fun k hk => by rw [hV]; exact blk_other _ hk
 have hkV : V.heap[w.heap.size]? = some (.cells #[.int .i64 0, .string ⟨#[]⟩, .int .i64 0, .slice none 0 0] 24 (0, 0)) := (oE _ (by omega)).trans (HRW.out _ HB.out).2
 have HSV : Hid (w.heap.size + 1 ≤ V.heap.size) := by show _ ≤ _; rw [hV]; simpa [World.setCell] using (HRW.out _ HB.out).1
 have HXV : Hid (FX (XI g m nv) (XI g m nv) w V) := by rw [hV]; exact (HXW.out _ HB.out).set (Or.inl (Or.inl rfl)) _
 have HIV : Hid (IRd g m L lv nv V d ⟨r, names⟩) := hI
 have HKV : Hid _ := hkV
 obtain ⟨a0, a1, a2, a3, a4, b0, b1, b2, b3, b4⟩ := HC.out wq HB.out
 have z1 : V.cell? ⟨BX, 1, none⟩ = some (.string ⟨#[40]⟩) := by rw [World.cell?_of_block (a := ⟨BX, 1, none⟩) (oE BX (by omega))]; exact a1
 have z2 : V.cell? ⟨BX, 2, none⟩ = some (.int .i64 xn) := by rw [World.cell?_of_block (a := ⟨BX, 2, none⟩) (oE BX (by omega))]; exact a2
 have y1 : V.cell? ⟨BU, 1, none⟩ = some (.string ut) := by rw [World.cell?_of_block (a := ⟨BU, 1, none⟩) (oE BU (by omega))]; exact b1
 have y2 : V.cell? ⟨BU, 2, none⟩ = some (.int .i64 un) := by rw [World.cell?_of_block (a := ⟨BU, 2, none⟩) (oE BU (by omega))]; exact b2
 clear c0 c1 c2 c3 c4 e0 e1 e2 e3 e4 a0 a1 a2 a3 a4 b0 b1 b2 b3 b4 hc hgw hbx oE hkV
 go_upto_region 6 with fail
 rw [← hV]
 clear hV k1 f1 hp hwr hI
 obtain ⟨q0, q1, q2, q3, fz0, fz1, fz2, fz3⟩ := blk4 HKV.out
 clear q0 q1 q2 q3 fz0 fz1 fz2 fz3
 have HAT : Hid _ := i_atomOf ut V (by have := HZ.out; omega)
 go_wp2_with (go_at_call 89; refine (Calls.mono HAT.out ?_); rintro e w5 ⟨rfl, hb⟩; have hk5 := (hb.block _ (by have := HSV.out; omega)).trans HKV.out; obtain ⟨q0, q1, q2, q3, fz0, fz1, fz2, fz3⟩ := blk4 hk5; have HK5 : Hid _ := hk5; have HB5 : Hid (Below V.heap.size V w5) := hb; clear hb hk5)
 refine bodyPost_ret_by (results_ct2 rfl _ _ w.heap.size 24 _ (0, 0) _ rfl (blk4_set HK5.out) Tryz.underlying24 rfl (by kernel_rfl)) rfl ?_
 exact ⟨_, rfl, TmRI.fin HH.out (HXV.out.trans (FX.of_below HB5.out)) (XI_new HH.out) (TOk.leaf (by omega) (by omega) (by have := HZ.out; unfold maxLen; omega)) (HIV.out.keep HB5.out) rfl⟩
set_option maxHeartbeats 8000000 in
set_option maxRecDepth 20000 in
theorem i_prim_D (f g m : Nat) (L : List Sg) (lv nv : Value) (d : Nat) (most : Int) (xn : Int) (xa : Nat) (xb : Bool) (un : Int) (ua : Nat) (ub : Bool) (vk : Int) (vt : ByteArray) (vn : Int) (va : Nat) (vb : Bool) (r : List Sg) (names : List ByteArray) (w : World) (hL : L.length ≤ 3000) (hf : d + f = 130) (hT : TermCI f g m L lv) (h : IRd g m L lv nv w d ⟨⟨4, ⟨#[91]⟩, xn, xa, xb⟩ :: ⟨4, ⟨#[93]⟩, un, ua, ub⟩ :: r, names⟩) (hv : aheadP ⟨⟨4, ⟨#[91]⟩, xn, xa, xb⟩ :: ⟨4, ⟨#[93]⟩, un, ua, ub⟩ :: r, names⟩ 2 = ⟨vk, vt, vn, va, vb⟩)  :
   Calls Tryz.prog 73 #[.pointer (some ⟨g, 0, none⟩), .int .i64 most] w fun e w' => EndP g m L lv nv w d (some (nilTm, 0, ⟨r, names⟩)) e w' := by
 obtain ⟨W, hW⟩ : ∃ W, W = w.alloc (.cells #[.int .i64 0, .string ⟨#[]⟩, .int .i64 0, .slice none 0 0] 24) := ⟨_, rfl⟩
 have bW : Below w.heap.size w W := by rw [hW]; exact (Below.refl _ _).alloc (Nat.le_refl _) _
 have sW : W.heap.size = w.heap.size + 1 := by rw [hW]; simp
 have kW : W.heap[w.heap.size]? = some (.cells #[.int .i64 0, .string ⟨#[]⟩, .int .i64 0, .slice none 0 0] 24 (0, 0)) := by rw [hW]; exact heap_alloc_new _ _
 have HH : Hid (IRd g m L lv nv w d ⟨⟨4, ⟨#[91]⟩, xn, xa, xb⟩ :: ⟨4, ⟨#[93]⟩, un, ua, ub⟩ :: r, names⟩) := h
 have HA0 : Hid _ := i_ahead g m L lv nv d ⟨⟨4, ⟨#[91]⟩, xn, xa, xb⟩ :: ⟨4, ⟨#[93]⟩, un, ua, ub⟩ :: r, names⟩ 0 W (by omega) hL (h.keep bW)
 have HA1 : Hid (∀ w1, Below W.heap.size W w1 → _) := fun w1 hb => i_ahead g m L lv nv d ⟨⟨4, ⟨#[91]⟩, xn, xa, xb⟩ :: ⟨4, ⟨#[93]⟩, un, ua, ub⟩ :: r, names⟩ 1 w1 (by omega) hL ((h.keep bW).keep hb)
 have HA2 : Hid (∀ w1, Below W.heap.size W w1 → _) := fun w1 hb => i_ahead g m L lv nv d ⟨⟨4, ⟨#[91]⟩, xn, xa, xb⟩ :: ⟨4, ⟨#[93]⟩, un, ua, ub⟩ :: r, names⟩ 2 w1 (by omega) hL ((h.keep bW).keep hb)
 have HX : Hid (sgA (aheadP ⟨⟨4, ⟨#[91]⟩, xn, xa, xb⟩ :: ⟨4, ⟨#[93]⟩, un, ua, ub⟩ :: r, names⟩ 0) = .agg #[.int .i64 (4), .string ⟨#[91]⟩, .int .i64 xn, .int .i64 (xa : Int), .bool xb]) := by show _ = _; rfl
 have HU : Hid (sgA (aheadP ⟨⟨4, ⟨#[91]⟩, xn, xa, xb⟩ :: ⟨4, ⟨#[93]⟩, un, ua, ub⟩ :: r, names⟩ 1) = .agg #[.int .i64 (4), .string ⟨#[93]⟩, .int .i64 un, .int .i64 (ua : Int), .bool ub]) := by show _ = _; rfl
 have HV : Hid (sgA (aheadP ⟨⟨4, ⟨#[91]⟩, xn, xa, xb⟩ :: ⟨4, ⟨#[93]⟩, un, ua, ub⟩ :: r, names⟩ 2) = .agg #[.int .i64 (vk), .string vt, .int .i64 vn, .int .i64 (va : Int), .bool vb]) := by show _ = _; rw [hv]
 have HL : Hid (L.length ≤ 3000) := hL
 have HTC : Hid (TermCI f g m L lv) := hT
 have HF : Hid (d + f = 130) := hf
 have HKW : Hid (W.heap[w.heap.size]? = some (.cells #[.int .i64 0, .string ⟨#[]⟩, .int .i64 0, .slice none 0 0] 24 (0, 0)) ∧ W.heap.size = w.heap.size + 1) := ⟨kW, sW⟩
 have HBW : Hid (Below w.heap.size w W) := bW
 have HM : Hid (∀ (a : Int) (b : ByteArray) (c : Int) (dd : Nat) (e : Bool) (q : ByteArray) (w1 : World), Calls Tryz.prog 88 #[.agg #[.int .i64 a, .string b, .int .i64 c, .int .i64 (dd : Int), .bool e], .string q] w1 fun e' w' => e' = .returned (.bool (markB ⟨a, b, c, dd, e⟩ q)) ∧ Below w1.heap.size w1 w') := fun a b c dd e q w1 => i_isMark ⟨a, b, c, dd, e⟩ q w1
 clear hT h bW kW sW hf hL hv
 have m0 : markB ⟨4, ⟨#[91]⟩, xn, xa, xb⟩ ⟨#[40]⟩ = false := by simp [markB]
 have m1 : markB ⟨4, ⟨#[91]⟩, xn, xa, xb⟩ ⟨#[91]⟩ = true := by simp [markB]
 have m2 : markB ⟨4, ⟨#[93]⟩, un, ua, ub⟩ ⟨#[93]⟩ = true := by simp [markB]
 go_enter Tryz.func73, Tryz.ntmps73
 go_upto_region 2 with (first
   | (go_at_call 86; rw [← hW]; refine (Calls.mono HA0.out ?_); rintro e w1 ⟨rfl, hb⟩; rw [HX.out]; have HB1 : Hid (Below W.heap.size W w1) := hb; clear hb)
   | (go_at_call 86; refine (Calls.mono (HA1.out _ HB1.out) ?_); rintro e w2 ⟨rfl, hb⟩; rw [HU.out]; have HB2 : Hid (Below W.heap.size W w2) := HB1.out.trans (hb.mono HB1.out.size); clear hb))
 obtain ⟨W2, hW2⟩ : ∃ W2, W2 = (w2.alloc (.cells #[.int .i64 (4), .string ⟨#[91]⟩, .int .i64 xn, .int .i64 (xa : Int), .bool xb] 45)).alloc (.cells #[.int .i64 (4), .string ⟨#[93]⟩, .int .i64 un, .int .i64 (ua : Int), .bool ub] 45) := ⟨_, rfl⟩
 rw [← hW2]
 have bW2 : Below w2.heap.size w2 W2 := by rw [hW2]; exact ((Below.refl _ _).alloc (Nat.le_refl _) _).alloc (by simp) _
 have kx : W2.heap[w2.heap.size]? = some (.cells #[.int .i64 (4), .string ⟨#[91]⟩, .int .i64 xn, .int .i64 (xa : Int), .bool xb] 45 (0, 0)) := by rw [hW2]; exact (alloc_old _ _ (by simp)).trans (heap_alloc_new _ _)
 have ku : W2.heap[w2.heap.size + 1]? = some (.cells #[.int .i64 (4), .string ⟨#[93]⟩, .int .i64 un, .int .i64 (ua : Int), .bool ub] 45 (0, 0)) := by rw [hW2]; exact alloc_at _ _ (by simp)
 have sW2 : W2.heap.size = w2.heap.size + 2 := by rw [hW2]; simp
 obtain ⟨BX, hBX⟩ : ∃ BX, BX = w2.heap.size := ⟨_, rfl⟩
 obtain ⟨BU, hBU⟩ : ∃ BU, BU = BX + 1 := ⟨_, rfl⟩
 rw [← hBX] at kx ku ⊢
 rw [← hBU] at ku ⊢
 have bb : Below W.heap.size W W2 := HB2.out.trans (bW2.mono HB2.out.size)
 have bw : Below w.heap.size w W2 := HBW.out.trans (bb.mono HBW.out.size)
 have HC : Hid (∀ w', Below W2.heap.size W2 w' → w'.cell? ⟨BX, 0, none⟩ = some (.int .i64 4) ∧ w'.cell? ⟨BX, 1, none⟩ = some (.string ⟨#[91]⟩) ∧ w'.cell? ⟨BX, 2, none⟩ = some (.int .i64 xn) ∧ w'.cell? ⟨BX, 3, none⟩ = some (.int .i64 (xa : Int)) ∧ w'.cell? ⟨BX, 4, none⟩ = some (.bool xb) ∧ w'.cell? ⟨BU, 0, none⟩ = some (.int .i64 4) ∧ w'.cell? ⟨BU, 1, none⟩ = some (.string ⟨#[93]⟩) ∧ w'.cell? ⟨BU, 2, none⟩ = some (.int .i64 un) ∧ w'.cell? ⟨BU, 3, none⟩ = some (.int .i64 (ua : Int)) ∧ w'.cell? ⟨BU, 4, none⟩ = some (.bool ub)) := fun w' hb => by
   obtain ⟨a0, a1, a2, a3, a4, _⟩ := b5f ((hb.block BX (by omega)).trans kx)
   obtain ⟨b0, b1, b2, b3, b4, _⟩ := b5f ((hb.block BU (by omega)).trans ku)
   exact ⟨a0, a1, a2, a3, a4, b0, b1, b2, b3, b4⟩
 have HIW : Hid (∀ w', Below W2.heap.size W2 w' → IRd g m L lv nv w' d ⟨⟨4, ⟨#[91]⟩, xn, xa, xb⟩ :: ⟨4, ⟨#[93]⟩, un, ua, ub⟩ :: r, names⟩) := fun w' hb => (HH.out.keep bw).keep hb
 have HXW : Hid (∀ w', Below W2.heap.size W2 w' → FX (XI g m nv) (XI g m nv) w w') := fun w' hb => FX.of_below (bw.trans (hb.mono bw.size))
 have HRW : Hid (∀ w', Below W2.heap.size W2 w' → w.heap.size + 1 ≤ w'.heap.size ∧ w'.heap[w.heap.size]? = some (.cells #[.int .i64 0, .string ⟨#[]⟩, .int .i64 0, .slice none 0 0] 24 (0, 0))) := fun w' hb => by
   have h1 := HKW.out.2
   have h2 := bb.size
   have h3 := hb.size
   exact ⟨by omega, (hb.block _ (by omega)).trans ((bb.block _ (by omega)).trans HKW.out.1)⟩
 have HA3 : Hid (∀ w1, Below W2.heap.size W2 w1 → _) := fun w1 hb => HA2.out w1 (bb.trans (hb.mono bb.size))
 have HB0 : Hid (Below W2.heap.size W2 W2) := Below.refl _ _
 have HBX : Hid (w.heap.size < BX ∧ w.heap.size < BU) := ⟨by have := HKW.out.2; have := HB2.out.size; omega, by have := HKW.out.2; have := HB2.out.size; omega⟩
 obtain ⟨wq, hwq⟩ : ∃ wq, wq = W2 := ⟨_, rfl⟩
 have HB : Hid (Below W2.heap.size W2 wq) := by rw [hwq]; exact HB0.out
 rw [← hwq]
 obtain ⟨c0, c1, c2, c3, c4, e0, e1, e2, e3, e4⟩ := HC.out wq HB.out
 clear hwq HB0 hW2 bW2 kx ku hBX hBU bb bw HA0 HA1 HA2 HB1 HB2 hW sW2 HKW
 go_upto_region 10 with (first
   | (go_at_call 86; refine (Calls.mono (HA3.out _ HB.out) ?_); rintro e wq ⟨rfl, hb⟩; rw [HV.out]; replace HB := Hid.trans2 HB hb; obtain ⟨c0, c1, c2, c3, c4, e0, e1, e2, e3, e4⟩ := HC.out wq HB.out; clear hb)
   | (go_at_call 88; refine (Calls.mono (HM.out _ _ _ _ _ _ _) ?_); rintro e wq ⟨rfl, hb⟩; replace HB := Hid.trans2 HB hb; obtain ⟨c0, c1, c2, c3, c4, e0, e1, e2, e3, e4⟩ := HC.out wq HB.out; clear hb))
 obtain ⟨p, k1, hp, f1, hI⟩ := IRd.skip (pre := [⟨4, ⟨#[91]⟩, xn, xa, xb⟩, ⟨4, ⟨#[93]⟩, un, ua, ub⟩]) (n := 2) rfl (HIW.out _ HB.out)
 have hwr : IntKind.i64.wrap ((p : Int) + 2) = ((p + 2 : Nat) : Int) := by have := HL.out; rw [IntKind.wrap_i64]; omega
 have hc : ((p + 2 : Nat) : Int) = (p : Int) + 2 := by omega
 rw [hc] at hwr hI
 obtain ⟨V, hV⟩ : ∃ V, V = wq.setCell ⟨g, 1, none⟩ (.int .i64 ((p : Int) + 2)) := ⟨_, rfl⟩
 rw [← hV] at hI
 have hgw := HH.out.lt.1
 have hbx := HBX.out
 have oE : ∀ k, k ≠ g → V.heap[k]? = wq.heap[k]? := fun k hk => by rw [hV]; exact blk_other _ hk
 have hkV : V.heap[w.heap.size]? = some (.cells #[.int .i64 0, .string ⟨#[]⟩, .int .i64 0, .slice none 0 0] 24 (0, 0)) := (oE _ (by omega)).trans (HRW.out _ HB.out).2
 have HSV : Hid (w.heap.size + 1 ≤ V.heap.size) := by show _ ≤ _; rw [hV]; simpa [World.setCell] using (HRW.out _ HB.out).1
 have HXV : Hid (FX (XI g m nv) (XI g m nv) w V) := by rw [hV]; exact (HXW.out _ HB.out).set (Or.inl (Or.inl rfl)) _
 have HIV : Hid (IRd g m L lv nv V d ⟨r, names⟩) := hI
 have HKV : Hid _ := hkV
 obtain ⟨a0, a1, a2, a3, a4, b0, b1, b2, b3, b4⟩ := HC.out wq HB.out
 have z1 : V.cell? ⟨BX, 1, none⟩ = some (.string ⟨#[91]⟩) := by rw [World.cell?_of_block (a := ⟨BX, 1, none⟩) (oE BX (by omega))]; exact a1
 have z2 : V.cell? ⟨BX, 2, none⟩ = some (.int .i64 xn) := by rw [World.cell?_of_block (a := ⟨BX, 2, none⟩) (oE BX (by omega))]; exact a2
 have y1 : V.cell? ⟨BU, 1, none⟩ = some (.string ⟨#[93]⟩) := by rw [World.cell?_of_block (a := ⟨BU, 1, none⟩) (oE BU (by omega))]; exact b1
 have y2 : V.cell? ⟨BU, 2, none⟩ = some (.int .i64 un) := by rw [World.cell?_of_block (a := ⟨BU, 2, none⟩) (oE BU (by omega))]; exact b2
 clear c0 c1 c2 c3 c4 e0 e1 e2 e3 e4 a0 a1 a2 a3 a4 b0 b1 b2 b3 b4 hc hgw hbx oE hkV
 go_upto_region 11 with fail
 rw [← hV]
 clear hV k1 f1 hp hwr hI
 obtain ⟨q0, q1, q2, q3, fz0, fz1, fz2, fz3⟩ := blk4 HKV.out
 clear q0 q1 q2 q3 fz0 fz1 fz2 fz3
 have HAT : Hid _ := i_atomOf ⟨#[91, 93]⟩ V (by decide)
 go_wp2_with (go_at_call 89; refine (Calls.mono HAT.out ?_); rintro e w5 ⟨rfl, hb⟩; have hk5 := (hb.block _ (by have := HSV.out; omega)).trans HKV.out; obtain ⟨q0, q1, q2, q3, fz0, fz1, fz2, fz3⟩ := blk4 hk5; have HK5 : Hid _ := hk5; have HB5 : Hid (Below V.heap.size V w5) := hb; clear hb hk5)
 refine bodyPost_ret_by (results_ct2 rfl _ _ w.heap.size 24 _ (0, 0) _ rfl (blk4_set HK5.out) Tryz.underlying24 rfl (by kernel_rfl)) rfl ?_
 exact ⟨_, rfl, TmRI.fin HH.out (HXV.out.trans (FX.of_below HB5.out)) (XI_new HH.out) (TOk.leaf (by omega) (by omega) (by decide)) (HIV.out.keep HB5.out) rfl⟩
set_option maxHeartbeats 8000000 in
set_option maxRecDepth 20000 in
theorem i_prim_E (f g m : Nat) (L : List Sg) (lv nv : Value) (d : Nat) (most : Int) (xn : Int) (xa : Nat) (xb : Bool) (uk : Int) (ut : ByteArray) (un : Int) (ua : Nat) (ub : Bool) (vk : Int) (vt : ByteArray) (vn : Int) (va : Nat) (vb : Bool) (r : List Sg) (names : List ByteArray) (w : World) (hL : L.length ≤ 3000) (hf : d + f = 130) (hT : TermCI f g m L lv) (h : IRd g m L lv nv w d ⟨⟨4, ⟨#[91]⟩, xn, xa, xb⟩ :: r, names⟩) (hu : aheadP ⟨⟨4, ⟨#[91]⟩, xn, xa, xb⟩ :: r, names⟩ 1 = ⟨uk, ut, un, ua, ub⟩) (hv : aheadP ⟨⟨4, ⟨#[91]⟩, xn, xa, xb⟩ :: r, names⟩ 2 = ⟨vk, vt, vn, va, vb⟩) (hm : markB ⟨uk, ut, un, ua, ub⟩ ⟨#[93]⟩ = false) :
   Calls Tryz.prog 73 #[.pointer (some ⟨g, 0, none⟩), .int .i64 most] w fun e w' => EndP g m L lv nv w d ((itemsO (termO false f) r names).map fun y => (y.1, 0, y.2)) e w' := by
 obtain ⟨W, hW⟩ : ∃ W, W = w.alloc (.cells #[.int .i64 0, .string ⟨#[]⟩, .int .i64 0, .slice none 0 0] 24) := ⟨_, rfl⟩
 have bW : Below w.heap.size w W := by rw [hW]; exact (Below.refl _ _).alloc (Nat.le_refl _) _
 have sW : W.heap.size = w.heap.size + 1 := by rw [hW]; simp
 have kW : W.heap[w.heap.size]? = some (.cells #[.int .i64 0, .string ⟨#[]⟩, .int .i64 0, .slice none 0 0] 24 (0, 0)) := by rw [hW]; exact heap_alloc_new _ _
 have HH : Hid (IRd g m L lv nv w d ⟨⟨4, ⟨#[91]⟩, xn, xa, xb⟩ :: r, names⟩) := h
 have HA0 : Hid _ := i_ahead g m L lv nv d ⟨⟨4, ⟨#[91]⟩, xn, xa, xb⟩ :: r, names⟩ 0 W (by omega) hL (h.keep bW)
 have HA1 : Hid (∀ w1, Below W.heap.size W w1 → _) := fun w1 hb => i_ahead g m L lv nv d ⟨⟨4, ⟨#[91]⟩, xn, xa, xb⟩ :: r, names⟩ 1 w1 (by omega) hL ((h.keep bW).keep hb)
 have HA2 : Hid (∀ w1, Below W.heap.size W w1 → _) := fun w1 hb => i_ahead g m L lv nv d ⟨⟨4, ⟨#[91]⟩, xn, xa, xb⟩ :: r, names⟩ 2 w1 (by omega) hL ((h.keep bW).keep hb)
 have HX : Hid (sgA (aheadP ⟨⟨4, ⟨#[91]⟩, xn, xa, xb⟩ :: r, names⟩ 0) = .agg #[.int .i64 (4), .string ⟨#[91]⟩, .int .i64 xn, .int .i64 (xa : Int), .bool xb]) := by show _ = _; rfl
 have HU : Hid (sgA (aheadP ⟨⟨4, ⟨#[91]⟩, xn, xa, xb⟩ :: r, names⟩ 1) = .agg #[.int .i64 (uk), .string ut, .int .i64 un, .int .i64 (ua : Int), .bool ub]) := by show _ = _; rw [hu]
 have HV : Hid (sgA (aheadP ⟨⟨4, ⟨#[91]⟩, xn, xa, xb⟩ :: r, names⟩ 2) = .agg #[.int .i64 (vk), .string vt, .int .i64 vn, .int .i64 (va : Int), .bool vb]) := by show _ = _; rw [hv]
 have HL : Hid (L.length ≤ 3000) := hL
 have HTC : Hid (TermCI f g m L lv) := hT
 have HF : Hid (d + f = 130) := hf
 have HKW : Hid (W.heap[w.heap.size]? = some (.cells #[.int .i64 0, .string ⟨#[]⟩, .int .i64 0, .slice none 0 0] 24 (0, 0)) ∧ W.heap.size = w.heap.size + 1) := ⟨kW, sW⟩
 have HBW : Hid (Below w.heap.size w W) := bW
 have HM : Hid (∀ (a : Int) (b : ByteArray) (c : Int) (dd : Nat) (e : Bool) (q : ByteArray) (w1 : World), Calls Tryz.prog 88 #[.agg #[.int .i64 a, .string b, .int .i64 c, .int .i64 (dd : Int), .bool e], .string q] w1 fun e' w' => e' = .returned (.bool (markB ⟨a, b, c, dd, e⟩ q)) ∧ Below w1.heap.size w1 w') := fun a b c dd e q w1 => i_isMark ⟨a, b, c, dd, e⟩ q w1
 clear hT h bW kW sW hf hL hu hv
 obtain ⟨R, hR⟩ : ∃ R, R = itemsO (termO false f) r names := ⟨_, rfl⟩
 rw [← hR]
 have m0 : markB ⟨4, ⟨#[91]⟩, xn, xa, xb⟩ ⟨#[40]⟩ = false := by simp [markB]
 have m1 : markB ⟨4, ⟨#[91]⟩, xn, xa, xb⟩ ⟨#[91]⟩ = true := by simp [markB]
 go_enter Tryz.func73, Tryz.ntmps73
 go_upto_region 2 with (first
   | (go_at_call 86; rw [← hW]; refine (Calls.mono HA0.out ?_); rintro e w1 ⟨rfl, hb⟩; rw [HX.out]; have HB1 : Hid (Below W.heap.size W w1) := hb; clear hb)
   | (go_at_call 86; refine (Calls.mono (HA1.out _ HB1.out) ?_); rintro e w2 ⟨rfl, hb⟩; rw [HU.out]; have HB2 : Hid (Below W.heap.size W w2) := HB1.out.trans (hb.mono HB1.out.size); clear hb))
 obtain ⟨W2, hW2⟩ : ∃ W2, W2 = (w2.alloc (.cells #[.int .i64 (4), .string ⟨#[91]⟩, .int .i64 xn, .int .i64 (xa : Int), .bool xb] 45)).alloc (.cells #[.int .i64 (uk), .string ut, .int .i64 un, .int .i64 (ua : Int), .bool ub] 45) := ⟨_, rfl⟩
 rw [← hW2]
 have bW2 : Below w2.heap.size w2 W2 := by rw [hW2]; exact ((Below.refl _ _).alloc (Nat.le_refl _) _).alloc (by simp) _
 have kx : W2.heap[w2.heap.size]? = some (.cells #[.int .i64 (4), .string ⟨#[91]⟩, .int .i64 xn, .int .i64 (xa : Int), .bool xb] 45 (0, 0)) := by rw [hW2]; exact (alloc_old _ _ (by simp)).trans (heap_alloc_new _ _)
 have ku : W2.heap[w2.heap.size + 1]? = some (.cells #[.int .i64 (uk), .string ut, .int .i64 un, .int .i64 (ua : Int), .bool ub] 45 (0, 0)) := by rw [hW2]; exact alloc_at _ _ (by simp)
 have sW2 : W2.heap.size = w2.heap.size + 2 := by rw [hW2]; simp
 obtain ⟨BX, hBX⟩ : ∃ BX, BX = w2.heap.size := ⟨_, rfl⟩
 obtain ⟨BU, hBU⟩ : ∃ BU, BU = BX + 1 := ⟨_, rfl⟩
 rw [← hBX] at kx ku ⊢
 rw [← hBU] at ku ⊢
 have bb : Below W.heap.size W W2 := HB2.out.trans (bW2.mono HB2.out.size)
 have bw : Below w.heap.size w W2 := HBW.out.trans (bb.mono HBW.out.size)
 have HC : Hid (∀ w', Below W2.heap.size W2 w' → w'.cell? ⟨BX, 0, none⟩ = some (.int .i64 4) ∧ w'.cell? ⟨BX, 1, none⟩ = some (.string ⟨#[91]⟩) ∧ w'.cell? ⟨BX, 2, none⟩ = some (.int .i64 xn) ∧ w'.cell? ⟨BX, 3, none⟩ = some (.int .i64 (xa : Int)) ∧ w'.cell? ⟨BX, 4, none⟩ = some (.bool xb) ∧ w'.cell? ⟨BU, 0, none⟩ = some (.int .i64 uk) ∧ w'.cell? ⟨BU, 1, none⟩ = some (.string ut) ∧ w'.cell? ⟨BU, 2, none⟩ = some (.int .i64 un) ∧ w'.cell? ⟨BU, 3, none⟩ = some (.int .i64 (ua : Int)) ∧ w'.cell? ⟨BU, 4, none⟩ = some (.bool ub)) := fun w' hb => by
   obtain ⟨a0, a1, a2, a3, a4, _⟩ := b5f ((hb.block BX (by omega)).trans kx)
   obtain ⟨b0, b1, b2, b3, b4, _⟩ := b5f ((hb.block BU (by omega)).trans ku)
   exact ⟨a0, a1, a2, a3, a4, b0, b1, b2, b3, b4⟩
 have HIW : Hid (∀ w', Below W2.heap.size W2 w' → IRd g m L lv nv w' d ⟨⟨4, ⟨#[91]⟩, xn, xa, xb⟩ :: r, names⟩) := fun w' hb => (HH.out.keep bw).keep hb
 have HXW : Hid (∀ w', Below W2.heap.size W2 w' → FX (XI g m nv) (XI g m nv) w w') := fun w' hb => FX.of_below (bw.trans (hb.mono bw.size))
 have HRW : Hid (∀ w', Below W2.heap.size W2 w' → w.heap.size + 1 ≤ w'.heap.size ∧ w'.heap[w.heap.size]? = some (.cells #[.int .i64 0, .string ⟨#[]⟩, .int .i64 0, .slice none 0 0] 24 (0, 0))) := fun w' hb => by
   have h1 := HKW.out.2
   have h2 := bb.size
   have h3 := hb.size
   exact ⟨by omega, (hb.block _ (by omega)).trans ((bb.block _ (by omega)).trans HKW.out.1)⟩
 have HA3 : Hid (∀ w1, Below W2.heap.size W2 w1 → _) := fun w1 hb => HA2.out w1 (bb.trans (hb.mono bb.size))
 have HB0 : Hid (Below W2.heap.size W2 W2) := Below.refl _ _
 have HBX : Hid (w.heap.size < BX ∧ w.heap.size < BU) := ⟨by have := HKW.out.2; have := HB2.out.size; omega, by have := HKW.out.2; have := HB2.out.size; omega⟩
 obtain ⟨wq, hwq⟩ : ∃ wq, wq = W2 := ⟨_, rfl⟩
 have HB : Hid (Below W2.heap.size W2 wq) := by rw [hwq]; exact HB0.out
 rw [← hwq]
 obtain ⟨c0, c1, c2, c3, c4, e0, e1, e2, e3, e4⟩ := HC.out wq HB.out
 clear hwq HB0 hW2 bW2 kx ku hBX hBU bb bw HA0 HA1 HA2 HB1 HB2 hW sW2 HKW
 go_upto_region 13 with (first
   | (go_at_call 86; refine (Calls.mono (HA3.out _ HB.out) ?_); rintro e wq ⟨rfl, hb⟩; rw [HV.out]; replace HB := Hid.trans2 HB hb; obtain ⟨c0, c1, c2, c3, c4, e0, e1, e2, e3, e4⟩ := HC.out wq HB.out; clear hb)
   | (go_at_call 88; refine (Calls.mono (HM.out _ _ _ _ _ _ _) ?_); rintro e wq ⟨rfl, hb⟩; replace HB := Hid.trans2 HB hb; obtain ⟨c0, c1, c2, c3, c4, e0, e1, e2, e3, e4⟩ := HC.out wq HB.out; clear hb))
 have HCL := i_list f g m L lv nv d ⟨4, ⟨#[91]⟩, xn, xa, xb⟩ r names wq HL.out HF.out HTC.out (HIW.out _ HB.out)
 rw [← hR] at HCL
 have h0 := HRW.out _ HB.out
 have x0 := HXW.out _ HB.out
 have HR0 : Hid _ := h0
 have HX0 : Hid _ := x0
 clear h0 x0 hR
 cases R with
 | none =>
   have HCN : Hid _ := HCL
   clear HCL
   go_wp2_with (go_at_call 91; refine (Calls.mono HCN.out ?_); rintro e w5 ⟨rfl, nv5, hx⟩; have HX5 : Hid (FX (XI g m nv) (XI g m nv5) _ w5) := hx; clear hx)
   exact ⟨rfl, rfl, nv5, HX0.out.trans HX5.out⟩
 | some y =>
   have HCN : Hid _ := HCL
   clear HCL
   go_wp2_with (go_at_call 91; refine (Calls.mono HCN.out ?_); rintro e w5 ⟨v, rfl, F, nv5, ht, hi, hx⟩; obtain ⟨k1, s1, n1, ao1, ln1, cp1, rfl⟩ := ht.form; have hkk := fin_keep HH.out (by have := HR0.out.1; omega) hx; have hk5 := hkk.2.trans HR0.out.2; obtain ⟨q0, q1, q2, q3, fz0, fz1, fz2, fz3⟩ := blk4 hk5; have HK5 : Hid _ := hk5; have HN5 : Hid (¬ XI g m nv5 w.heap.size) := hkk.1; have HX5 : Hid (FX (XI g m nv) (XI g m nv5) w w5) := HX0.out.trans hx; have HT5 : Hid (TOk 24 (XI g m nv5) (w.heap.size + 1) w5 y.1 (.agg #[.int .i64 k1, .string s1, .int .i64 n1, .slice ao1 ln1 cp1]) F) := ht.lo_le HR0.out.1; have HI5 : Hid (IRd g m L lv nv5 w5 d y.2) := hi; clear ht hi hx hkk hk5)
   refine bodyPost_ret_by (results_ct2 rfl _ _ w.heap.size 24 _ (0, 0) _ rfl (blk4_set HK5.out) Tryz.underlying24 rfl (by kernel_rfl)) rfl ?_
   exact ⟨_, rfl, TmRI.fin HH.out HX5.out HN5.out HT5.out HI5.out rfl⟩
end Go.Proofs.YtbkjcccbjnehbanGreatDoor
